/- dirs, the document's: the block of entries. -/
import Derived.Test.YthfnldclpommlabD11
import Derived.Lib.AppendZerosOnto
import Derived.Deep.MidRow
namespace Go.Proofs.Ythfnldclpommlab
open Go.RowKit
set_option linter.unusedVariables false

theorem zero_list (m : Nat) : (Builtin.zeroCells (Value.int .u8 0).cells m).toList = (List.replicate m (0 : Int)).map (Value.int .u8) := by
  apply List.ext_getElem
  · simp [Builtin.zeroCells, Value.cells]
  · intro i h1 h2
    simp [Builtin.zeroCells, Value.cells, Nat.mod_one]

theorem zeros_own (B : Nat) (w : World) (v : Value) (n m : Nat) (xs : List Int) (h : w.ownsRow B 5 1 v n (xs.map (Value.int .u8))) (hnm : n + m = 128) (hB : B ≤ w.heap.size) (ty : TypeId) :
    ∃ g cap w', (Builtin.append_ #[22, 3] ty #[v, .int .i64 (m : Int)]).run Try.prog w = .ok (.slice (some ⟨g, 0, none⟩) 128 cap) w' ∧ Own B w' g 128 cap (xs ++ List.replicate m 0) ∧ w.grownBy w' v.ownBlock := by
  obtain ⟨i0, hi, hz0, hz1, hz2⟩ := info_parts info5
  have hlen : (xs ++ List.replicate m (0 : Int)).length = 128 := by have := h.1; simp at this ⊢; omega
  have hxl : xs.length = n := by have := h.1; simpa using this
  have hmap : (xs ++ List.replicate m (0 : Int)).map (Value.int .u8) = xs.map (Value.int .u8) ++ (Builtin.zeroCells (Value.int .u8 0).cells m).toList := by rw [List.map_append, zero_list]
  rcases h.2 with ⟨rfl, h0⟩ | ⟨g, cap, cur, rfl, hbg, hg, hnc, hcm, hcs, htk⟩
  · have hm : m = 128 := by omega
    subst hm
    have hr := Lib.run_append_nil_zeros (P := Try.prog) w 22 3 ty 5 i0 (.int .u8 0) .i64 .i64 Try.underlying22 Try.underlying3 hi hz0 128 (by omega) (by omega) (by omega) (by rw [hz2]; omega)
    refine ⟨_, _, _, hr, ⟨by simpa using hlen, .inr ⟨_, _, _, rfl, hB, heap_alloc_new w.drew _, grownCap_ge _ _ _ _, grownCap_le_maxLen _ _ _ _ (by unfold maxLen; omega), ?_, ?_⟩⟩, ⟨rfl, rfl, rfl, by simp, fun k hk _ => Below.heap_alloc w.drew _ k hk⟩⟩
    · have := grownCap_ge w 128 0 5
      simp [size_zeroCells, Value.cells]; omega
    · rw [hmap]
      have hx0 : xs = [] := List.eq_nil_of_length_eq_zero (by omega)
      subst hx0
      simp only [Array.toList_append, List.map_nil, List.nil_append]
      exact List.take_left' (by simp [size_zeroCells, Value.cells])
  · by_cases hroom : 128 ≤ cap
    · have hw : IntKind.i64.wrap (m : Int) = m := by rw [IntKind.wrap_i64]; omega
      have hneg : ¬ ((m : Int) < 0) := by omega
      have h48 : ¬ ((281474976710656 : Int) < (m : Int)) := by omega
      have hroom' : n + m ≤ cap := by omega
      by_cases hm : m = 0
      · subst hm
        have hn : n = 128 := by omega
        subst hn
        refine ⟨g, cap, w, ?_, ?_, ⟨rfl, rfl, rfl, Nat.le_refl _, fun _ _ _ => rfl⟩⟩
        · have hw0 : IntKind.i64.wrap 0 = 0 := hw
          simp [Builtin.append_, run_underlying Try.underlying22, run_underlying Try.underlying3, sizeOf, typeInfo, hi, hz2, asInt, asIntOf, hroom, Addr.add_mid, storeCells, hw0]
        · rw [List.replicate_zero, List.append_nil]
          exact h
      · have h1 : ∀ u ∈ (Builtin.zeroCells (Value.int .u8 0).cells m).toList, u.oneCell' = true := by rw [zero_list]; exact one_cells _
        have hzl : (Builtin.zeroCells (Value.int .u8 0).cells m).toList.length = m := by rw [zero_list]; simp
        have hst := run_storeCells_at Try.prog g n 5 (Builtin.zeroCells (Value.int .u8 0).cells m).toList 0 cur w hg (by rw [hzl, hcs]; omega) h1
        refine ⟨g, cap, w.setRow g (cur.toList.take n ++ (Builtin.zeroCells (Value.int .u8 0).cells m).toList ++ cur.toList.drop (n + m)).toArray, ?_, ⟨by simpa using hlen, .inr ⟨g, cap, _, rfl, hbg, setRow_heap w g cur _ 5 _ hg, hroom, hcm, ?_, ?_⟩⟩, ⟨rfl, rfl, rfl, by simp, fun k _ hk => setRow_other w g k _ (fun e => hk (by simp [Value.ownBlock, e]))⟩⟩
        · rw [Nat.add_zero, hzl] at hst
          simp [Builtin.append_, run_underlying Try.underlying22, run_underlying Try.underlying3, sizeOf, typeInfo, zeroValue, hi, hz0, hz1, hz2, asInt, asIntOf, hw, hneg, h48, hm, Addr.add_mid, hst, hnm]
          intro hc
          omega
        · simp only [List.size_toArray, List.length_append, List.length_take, List.length_drop, Array.length_toList, hzl, hcs]; omega
        · rw [hmap, ← htk]
          simp only [Nat.mul_one]
          have hle : (cur.toList.take n ++ (Builtin.zeroCells (Value.int .u8 0).cells m).toList).length = 128 := by rw [List.length_append, hzl, List.length_take, Array.length_toList, hcs]; omega
          exact List.take_left' hle
    · have hm : 0 < m := by omega
      have hold : (Builtin.firstCells i0.size n (.slice (some ⟨g, 0, none⟩) n cap)).run Try.prog w.drew = .ok (xs.map (Value.int .u8)).toArray w.drew :=
        run_firstCells_some (P := Try.prog) w.drew i0.size n ⟨g, 0, none⟩ n cap _ (by rw [hz1]; simpa using h.1) (h.cells rfl)
      have hr := Lib.run_append_grow_zeros (P := Try.prog) w 22 3 ty 5 i0 (.int .u8 0) .i64 .i64 Try.underlying22 Try.underlying3 hi hz0 (some ⟨g, 0, none⟩) n cap (xs.map (Value.int .u8)) hold m hm (by omega) (by omega) (by omega) (by rw [hz2]; omega) (growslice_fits (by omega) (by rw [hz2]; omega))
      rw [hnm] at hr
      refine ⟨_, _, _, hr, ⟨by simpa using hlen, .inr ⟨_, _, _, rfl, hB, heap_alloc_new w.drew _, grownCap_ge _ _ _ _, grownCap_le_maxLen _ _ _ _ (by unfold maxLen; omega), ?_, ?_⟩⟩, ⟨rfl, rfl, rfl, by simp, fun k hk _ => Below.heap_alloc w.drew _ k hk⟩⟩
      · have := grownCap_ge w 128 cap 5
        simp [size_zeroCells, Value.cells]; omega
      · rw [hmap]
        simp only [Array.toList_append]
        exact List.take_left' (by simp [size_zeroCells, Value.cells]; omega)

/-- Whether there is a block of the entries, and its bytes. -/
def mayE (L : List En) : Prop := L.length ≤ 8 ∧ clB L = false ∧ ∀ e ∈ L, EMay e.n e.s
instance (L : List En) : Decidable (mayE L) := by unfold mayE; infer_instance
def pad (L : List En) : List En := L ++ List.replicate (8 - L.length) ent00
def enB (L : List En) : List Int := if mayE L then encL (pad L) else []
def enE (L : List En) : Int := if mayE L then 0 else 1
theorem encL_zero : ∀ k, encL (List.replicate k ent00) = List.replicate (16 * k) 0
  | 0 => rfl
  | k + 1 => by
    have h := encL_zero k
    unfold encL at *
    rw [List.replicate_succ, List.flatMap_cons, h]
    have : entL ent00.n ent00.s = List.replicate 16 0 := entL_none _ rfl
    rw [this, List.replicate_append_replicate, show 16 * (k + 1) = 16 + 16 * k by omega]
theorem encL_app (A C : List En) : encL (A ++ C) = encL A ++ encL C := by simp [encL]
theorem encL_pad (L : List En) : encL (pad L) = encL L ++ List.replicate (16 * (8 - L.length)) 0 := by
  unfold pad
  rw [encL_app, encL_zero]
theorem pad_len {L : List En} (h : L.length ≤ 8) : (pad L).length = 8 := by simp [pad]; omega
theorem pad_may {L : List En} (h : ∀ e ∈ L, EMay e.n e.s) : ∀ e ∈ pad L, EMay e.n e.s := fun e he => by
  unfold pad at he
  rcases List.mem_append.1 he with he | he
  · exact h e he
  · rw [List.eq_of_mem_replicate he]; exact .inl ⟨rfl, rfl⟩
/-- Bytes and an error. -/
def P2 (w : World) (L : List Int) (er : Int) (e : Ending) (w' : World) : Prop := ∃ q m d, e = .returned (.tuple #[.slice q m d, .int .i64 er]) ∧ BI w' q m L ∧ Below w.heap.size w w'
theorem p2_no {w w' : World} {L : List En} (h : ¬ mayE L) (hb : Below w.heap.size w w') : P2 w (enB L) (enE L) (.returned (.tuple #[.slice none 0 0, .int .i64 1])) w' := by
  unfold enB enE
  rw [if_neg h, if_neg h]
  exact ⟨none, 0, 0, rfl, bi_nil _, hb⟩
theorem p2_yes {w w' : World} {L : List En} {q : Option Addr} {d : Nat} (h : mayE L) (hB : BI w' q 128 (encL (pad L))) (hb : Below w.heap.size w w') : P2 w (enB L) (enE L) (.returned (.tuple #[.slice q 128 d, .int .i64 0])) w' := by
  unfold enB enE
  rw [if_pos h, if_pos h]
  exact ⟨q, 128, d, rfl, hB, hb⟩

set_option maxRecDepth 20000 in
set_option maxHeartbeats 2000000 in
theorem rEncode_ok (p : Option Addr) (n c : Nat) (L : List En) (w : World) (h : EI w p n L) (hnc : n ≤ c) (hc2 : c ≤ 9223372036854775807) (hsz : ∀ e ∈ L, e.s.size ≤ 140737488355328) :
    Calls Try.prog 26 #[.slice p n c] w fun e w' => P2 w (enB L) (enE L) e w' := by
  have hlen := h.len
  have hbig := h.big
  by_cases h8 : n ≤ 8
  · have h8I : ¬ (8 : Int) < (n : Int) := by omega
    have hcl := clash_ok p n c L w h hnc hc2
    cases hc : clB L with
    | true =>
      rw [hc] at hcl
      have HM : Hid (¬ mayE L) := fun hm => by have := hm.2.1; rw [hc] at this; cases this
      clear hc
      go_enter Try.func26, Try.ntmps26
      go_wp2_with fail
      refine grew_at hcl ?_
      intro w1 hb1
      clear hcl
      dsimp only
      go_wp2_with fail
      go_ret2
      exact p2_no HM.out hb1
    | false =>
      rw [hc] at hcl
      have HC : Hid _ := hc
      clear hc
      go_enter Try.func26, Try.ntmps26
      go_wp2_with fail
      refine grew_at hcl ?_
      intro w1 hb1
      clear hcl
      have HB1 : Hid _ := hb1
      have H1 : Hid _ := h.kept hb1
      clear hb1 h
      dsimp only
      go_wp2_with fail
      go_loopw [4, 18] (fun v i wr => ∃ j : Nat, j ≤ n ∧ i = .int .i64 (j : Int) ∧ Below w1.heap.size w1 wr ∧ Rw w1.heap.size wr v (encL (L.take j)) ∧ ∀ e ∈ L.take j, EMay e.n e.s) (fun _ i _ => n - (intOf i).toNat)
      case atStart => exact ⟨0, by omega, rfl, Below.refl _ _, ⟨rfl, .inl ⟨rfl, rfl⟩⟩, (fun e he => by cases he)⟩
      case round =>
        obtain ⟨j, hj, rfl, hb, hR, hmay⟩ := hrel
        have hlT : (encL (L.take j)).length = 16 * j := by rw [encL_len _ hmay, List.length_take]; omega
        have HR : Hid _ := And.intro hR (And.intro hb (And.intro hmay hlT))
        by_cases hlt : j < n
        · obtain ⟨N, S, he⟩ : ∃ N S, L[j]? = some ⟨N, S⟩ := ⟨_, _, List.getElem?_eq_getElem (by omega)⟩
          obtain ⟨b, o, rfl, hcs⟩ := (H1.out.kept hb).cells (by omega)
          obtain ⟨c0, c1⟩ := hcs j _ he
          have hjI : (j : Int) < (n : Int) := by omega
          have hj0 : (0 : Int) ≤ (j : Int) := by omega
          have hS := hsz _ (List.mem_of_getElem? he)
          have hT : L.take (j + 1) = L.take j ++ [⟨N, S⟩] := by rw [List.take_add_one, he]; rfl
          have HT : Hid _ := And.intro hT (List.mem_of_getElem? he)
          clear hcs hb hR hmay he hT hlT
          by_cases hm : EMay N S
          · have hen := rencodeEntry_yes N S hm (wr.alloc (entO N S))
            have HM : Hid _ := hm
            clear hm
            go_wp2_with fail
            refine hen.mono ?_
            rintro _ w2 ⟨q2, d2, rfl, hB2, hb2⟩
            clear hen c0 c1
            obtain ⟨a, rfl⟩ : ∃ a, q2 = some a := by obtain ⟨b', o', e', _⟩ := hB2.cells (by omega); exact ⟨_, e'⟩
            have hbA := grew_trans (grew_alloc wr (entO N S)) hb2
            obtain ⟨v', w3, hr3, hR3, hg3⟩ := rw_app (c := d2) (HR.out.1.kept hbA) hB2 (by have := hbA.size; have := HR.out.2.1.size; omega) (by rw [HR.out.2.2.2]; omega) 22
            have hb3 : Below w1.heap.size w1 w3 := grown_bel (grew_trans HR.out.2.1 hbA) hg3 (fun g hg => (HR.out.1.lt g hg).1)
            have hmx : ∀ e ∈ L.take (j + 1), EMay e.n e.s := fun e he => by
              rw [HT.out.1] at he
              rcases List.mem_append.1 he with he | he
              · exact HR.out.2.2.1 e he
              · rw [List.mem_singleton.1 he]; exact HM.out
            rw [show encL (L.take j) ++ entL N S = encL (L.take (j + 1)) by rw [HT.out.1, encL_snoc]] at hR3
            have H3 : Hid _ := And.intro hb3 (And.intro hR3 hmx)
            clear hbA hB2 hb2 hg3 hb3 hR3 hmx
            dsimp only
            go_wp2_with (refine wpList_append_run rfl _ _ 22 22 rfl rfl rfl hr3 ?_)
            clear hr3
            go_roundw
            case rel => exact ⟨j + 1, by omega, by go_num, H3.out.1, H3.out.2.1, H3.out.2.2⟩
            case measure => simp [intOf]; omega
          · have hen := rencodeEntry_no N S hS hm (wr.alloc (entO N S))
            have HM : Hid (¬ mayE L) := fun hM => hm (hM.2.2 _ HT.out.2)
            clear hm
            go_wp2_with fail
            refine grew_at hen ?_
            intro w2 hb2
            clear hen c0 c1
            have hbf := grew_trans HB1.out (grew_trans HR.out.2.1 (grew_trans (grew_alloc wr (entO N S)) hb2))
            dsimp only
            go_wp2_with fail
            go_ret2
            exact p2_no HM.out hbf
        · obtain rfl : j = n := by omega
          have hnt : ¬ (j : Int) < (j : Int) := by omega
          rw [List.take_of_length_le (by omega)] at hR hmay hlT
          obtain ⟨g, cap, w2, hr2, hO2, hg2⟩ := zeros_own w1.heap.size wr _ (16 * j) (128 - 16 * j) (encL L) (by rw [← hlT]; exact hR) (by omega) hb.size 22
          have hb2 : Below w1.heap.size w1 w2 := grown_bel hb hg2 (fun g' hg' => (hR.lt g' hg').1)
          obtain ⟨q, d, hv, hBv⟩ := hR.bi (by omega) (encL_byt L)
          rw [hlT] at hv
          subst hv
          have hmE : mayE L := ⟨by omega, HC.out, hmay⟩
          have hpd : encL L ++ List.replicate (128 - 16 * j) 0 = encL (pad L) := by rw [encL_pad, show 16 * (8 - L.length) = 128 - 16 * j by omega]
          rw [hpd] at hO2
          have H2 : Hid _ := And.intro (hO2.bi (by omega) (encL_byt _)) (And.intro (grew_trans HB1.out hb2) hmE)
          have hcast : (128 : Int) - ((16 * j : Nat) : Int) = ((128 - 16 * j : Nat) : Int) := by omega
          rw [← hcast] at hr2
          have hwr : IntKind.i64.wrap ((128 : Int) - ((16 * j : Nat) : Int)) = (128 : Int) - ((16 * j : Nat) : Int) := by rw [IntKind.wrap_i64]; omega
          clear hR hmay hlT hBv hO2 hg2 hb2 hmE hpd hb
          go_wp2_with (refine wpList_append_run rfl _ _ 22 3 rfl rfl rfl hr2 ?_)
          go_ret2
          exact p2_yes H2.out.2.2 H2.out.1 H2.out.2.1
  · have h8I : (8 : Int) < (n : Int) := by omega
    have HM : Hid (¬ mayE L) := fun hm => by have := hm.1; omega
    go_enter Try.func26, Try.ntmps26
    go_wp2_with fail
    go_ret2
    exact p2_no HM.out (Below.refl _ _)
end Go.Proofs.Ythfnldclpommlab
