/- dirs: Split. -/
import Derived.Test.YtfchclpglcogoaaG2
namespace Go.Proofs.Ytfchclpglcogoaa
open Go.RowKit
set_option linter.unusedVariables false

theorem grown_bel {w w1 w2 : World} {r : Option Nat} (h : Below w.heap.size w w1) (hg : w1.grownBy w2 r) (hr : ∀ g, r = some g → w.heap.size ≤ g) : Below w.heap.size w w2 :=
  h.trans ⟨hg.os, hg.tape, hg.output, hg.size, fun i hi => hg.block i (Nat.lt_of_lt_of_le hi h.size) (fun e => by have := hr i e.symm; omega)⟩

theorem wp_append {P : Program} {o : Oper} {a : Act} {w w' : World} {K : Act → World → Prop} {Q : Exit → Act → World → Prop} {t u : TypeId} (s x : Operand) (ho : o.op = .call { callee := .builtin .append, args := #[s, x], argTypes := #[t, u] }) {v1 v2 v' : Value}
    (hs : a.eval s = v1) (hx : a.eval x = v2) (hr : (Builtin.append_ #[t, u] o.type #[v1, v2]).run P w = .ok v' w') (h : K (a.put o.dst v') w') : o.wp P a w K Q := by
  unfold Oper.wp execOp
  simp only [ho, resolve, invoke, builtin, Sem.run_bind, Sem.run_pure, Result.andThen_ok, List.map_toArray, List.map_cons, List.map_nil, hs, hx, hr]
  exact h
theorem wpList_append_run {P : Program} {ops : Array Oper} {rest : List Oper} {o : Oper} {a : Act} {Q : Exit → Act → World → Prop} {w w' : World} (hgd : o.guard = none) (s x : Operand) (t u : TypeId) (ho : o.op = .call { callee := .builtin .append, args := #[s, x], argTypes := #[t, u] }) {v1 v2 v' : Value}
    (hs : a.eval s = v1) (hx : a.eval x = v2) (hr : (Builtin.append_ #[t, u] o.type #[v1, v2]).run P w = .ok v' w') (h : wpList P ops Q rest (a.put o.dst v') w') : wpList P ops Q (o :: rest) a w :=
  wpList_plain hgd fun K hK => wp_append s x ho hs hx hr (hK _ _ h)


def strZ (v : Value) : Nat := match v with | .string s => s.size | _ => 0
def mrZ (r m : Value) : Nat := match m with | .bool true => strZ r + 1 | _ => 0
theorem take_snoc33 {Dn : List ByteArray} {x : ByteArray} (h : Dn.length ≤ 32) : (Dn ++ [x]).take 33 = Dn.take 33 ++ [x] := by
  rw [List.take_of_length_le (by simp; omega), List.take_of_length_le (by omega)]
theorem take_stay33 {Dn : List ByteArray} {x : ByteArray} (h : 32 < Dn.length) : (Dn ++ [x]).take 33 = Dn.take 33 := by
  rw [List.take_append_of_le_length (by omega)]
theorem nm_size {s : ByteArray} (h : Nm s) : 1 ≤ s.size ∧ s.size ≤ 13 := ⟨h.1, h.2.1⟩
theorem cutB_le (s : ByteArray) : (cutB s).size ≤ s.size := by
  unfold cutB
  split
  · exact Nat.zero_le _
  · rw [ext_size _ _ _ (Nat.le_refl _)]; omega
theorem cutA_le (s : ByteArray) : (cutA s).size ≤ s.size := by
  unfold cutA
  split
  · omega
  · rw [ByteArray.size_extract]; omega

/-- What stands while a path is split. -/
structure Spl (w wr : World) (r0 : ByteArray) (R : ByteArray) (mo : Bool) (Dn : List ByteArray) (v : Value) : Prop where
  eq : cps r0 = Dn ++ (if mo = true then cps R else [])
  nm : ∀ x ∈ Dn, Nm x
  row : Sr w.heap.size wr v (Dn.take 33)
  bel : Below w.heap.size w wr
  sz : R.size ≤ r0.size

set_option maxRecDepth 20000 in
set_option maxHeartbeats 4000000 in
theorem Split_ok (s : ByteArray) (w : World) (hs : s.size ≤ 140737488355328) : Calls Try.prog 49 #[.string s] w fun e w' => PS2 w s e w' := by
  have hcp := cutPrefix_ok s w hs
  cases h : slB s with
  | false =>
    have HM : Hid (¬ okP s) := fun hk => by rw [hk.1] at h; cases h
    rw [h] at hcp
    clear h
    go_enter Try.func49, Try.ntmps49
    go_wp2_with fail
    refine same_at hcp ?_
    clear hcp
    dsimp only
    go_wp2_with fail
    go_ret2
    exact ps_bad HM.out (Below.refl _ _)
  | true =>
    rw [h, if_pos rfl] at hcp
    have h1 := slB_size h
    have hrz : (s.extract 1 s.size).size = s.size - 1 := ext_size _ _ _ (Nat.le_refl _)
    have hnil := toList_nil (s.extract 1 s.size)
    by_cases hone : s.size = 1
    · rw [decide_eq_true (by omega)] at hnil
      have HM : Hid _ := And.intro h hone
      clear h hrz h1 hone
      generalize s.extract 1 s.size = r0 at *
      go_enter Try.func49, Try.ntmps49
      go_wp2_with fail
      refine same_at hcp ?_
      clear hcp
      dsimp only
      go_wp2_with fail
      go_ret2
      exact ps_root HM.out.1 HM.out.2 (Below.refl _ _)
    · rw [decide_eq_false (by omega)] at hnil
      have hpts : pts s = cps (s.extract 1 s.size) := by unfold pts; rw [if_neg hone]
      have hbad : ∀ x ∈ cps (s.extract 1 s.size), ¬ Nm x → ¬ okP s := fun x hx hn hk => by
        rcases hk.2 with h2 | h2
        · exact hone h2
        · exact hn (h2 x hx)
      have hgood : (∀ x ∈ cps (s.extract 1 s.size), Nm x) → okP s := fun hx => ⟨h, .inr hx⟩
      have HM : Hid _ := And.intro hpts (And.intro hbad (And.intro hgood hrz))
      clear hpts hbad hgood h h1 hrz hone
      generalize s.extract 1 s.size = r0 at *
      have hr0 : r0.size ≤ 140737488355328 := by have := HM.out.2.2.2; omega
      go_enter Try.func49, Try.ntmps49
      go_wp2_with fail
      refine same_at hcp ?_
      clear hcp
      dsimp only
      go_wp2_with fail
      go_loopw [4, 6, 7] (fun r v m wr => ∃ R mo Dn, r = .string R ∧ m = .bool mo ∧ Spl w wr r0 R mo Dn v) (fun r _ m _ => mrZ r m)
      case atStart => exact ⟨r0, true, [], rfl, rfl, ⟨by simp, (fun x hx => by cases hx), Sr.nil _ _, Below.refl _ _, Nat.le_refl _⟩⟩
      case round =>
        clear hnil
        obtain ⟨R, mo, Dn, rfl, rfl, hR⟩ := hrel
        cases mo with
        | true =>
          have HR : Hid _ := hR
          have hcu := cut_ok R wr (by have := hR.sz; omega)
          have heq := hR.eq
          rw [if_pos rfl] at heq
          clear hR
          obtain ⟨A, hA⟩ : ∃ A, cutA R = A := ⟨_, rfl⟩
          obtain ⟨B, hB⟩ : ∃ B, cutB R = B := ⟨_, rfl⟩
          obtain ⟨C, hC⟩ : ∃ C, cutC R = C := ⟨_, rfl⟩
          have hAs : A.size ≤ 140737488355328 := by have := cutA_le R; have := HR.out.sz; rw [hA] at *; omega
          have heq2 : cps r0 = (Dn ++ [A]) ++ (if C = true then cps B else []) := by
            rw [heq, List.append_assoc]
            congr 1
            cases C with
            | true => rw [if_pos rfl, cps_yes hC, hA, hB]; rfl
            | false => rw [if_neg (by simp), cps_no hC, hA]; rfl
          have hBs : B.size ≤ r0.size := by have := cutB_le R; have := HR.out.sz; rw [hB] at *; omega
          have hmz : C = true → B.size < R.size := fun hc => by have := cutB_size (hC.trans hc); rw [hB] at this; exact this
          rw [hA, hB, hC] at hcu
          have HX : Hid _ := And.intro heq2 (And.intro hBs hmz)
          clear heq heq2 hBs hmz hA hB hC
          go_wp2_with fail
          refine grew_at hcu ?_
          intro w1 hb1
          clear hcu
          have hin := isName_ok A w1 hAs
          by_cases hnm : Nm A
          · rw [decide_eq_true hnm] at hin
            have hnx : ∀ x ∈ Dn ++ [A], Nm x := fun x hx => by
              rcases List.mem_append.1 hx with hx | hx
              · exact HR.out.nm x hx
              · rw [List.mem_singleton.1 hx]; exact hnm
            have hr1 := HR.out.row.kept hb1
            have hbw1 := grew_trans HR.out.bel hb1
            have hmm : mrZ (.string B) (.bool C) < mrZ (.string R) (.bool true) := by
              cases C with
              | true => have := HX.out.2.2 rfl; show B.size + 1 < R.size + 1; omega
              | false => show 0 < R.size + 1; omega
            have HN : Hid _ := And.intro hnx (And.intro hr1 (And.intro hbw1 hmm))
            have hlt : (Dn.take 33).length ≤ 33 := by rw [List.length_take]; omega
            obtain ⟨q, d, rfl, _, _, hS⟩ := hr1.si (by omega)
            clear hnx hr1 hbw1 hmm hS hb1
            by_cases h32 : Dn.length ≤ 32
            · have hl : (Dn.take 33).length = Dn.length := by rw [List.length_take]; omega
              rw [hl]
              have h32I : ((Dn.length : Nat) : Int) ≤ 32 := by omega
              have hcn := sclone_ok A w1 (nm_size hnm).1 (nm_size hnm).2
              have HL : Hid _ := hl
              clear hnm hl hlt
              dsimp only
              go_wp2_with fail
              refine same_at hin ?_
              clear hin
              dsimp only
              go_wp2_with fail
              refine grew_at hcn ?_
              intro w2 hb2
              clear hcn
              have hbB := grew_alloc w2 (.cells #[.string A] 9)
              have hR2 := HN.out.2.1.kept hb2
              rw [HL.out] at hR2
              have hb02 := grew_trans HN.out.2.2.1 hb2
              obtain ⟨v', w3, hr3, hR3, hg3⟩ := sr_app (hR2.kept hbB) _ A (heap_new w2 _) (by have := hbB.size; have := hb02.size; omega) (by rw [List.length_take]; omega) 25
              have hb3 : Below w.heap.size w w3 := grown_bel (grew_trans hb02 hbB) hg3 (fun g hg => (hR2.lt g hg).1)
              rw [← take_snoc33 h32] at hR3
              have H3 : Hid _ := And.intro hb3 hR3
              clear hbB hR2 hb02 hR3 hg3 hb3 hb2
              dsimp only
              go_wp2_with (refine wpList_append_run rfl _ _ 25 25 rfl rfl rfl hr3 ?_)
              clear hr3
              go_roundw
              case rel => exact ⟨B, C, Dn ++ [A], rfl, rfl, ⟨HX.out.1, HN.out.1, H3.out.2, H3.out.1, HX.out.2.1⟩⟩
              case measure => exact HN.out.2.2.2
            · have hl : (Dn.take 33).length = 33 := by rw [List.length_take]; omega
              have HL : Hid _ := And.intro hl hnm
              rw [hl]
              clear hnm hl hlt
              dsimp only
              go_wp2_with fail
              refine same_at hin ?_
              clear hin
              dsimp only
              go_wp2_with fail
              go_roundw
              case rel => exact ⟨B, C, Dn ++ [A], rfl, rfl, ⟨HX.out.1, HN.out.1, by rw [take_stay33 (by omega)]; have := HN.out.2.1; rw [HL.out.1] at this; exact this, HN.out.2.2.1, HX.out.2.1⟩⟩
              case measure => exact HN.out.2.2.2
          · rw [decide_eq_false hnm] at hin
            have HB : Hid _ := And.intro (HM.out.2.1 A (by rw [HX.out.1]; simp) hnm) (grew_trans HR.out.bel hb1)
            clear hnm hb1
            dsimp only
            go_wp2_with fail
            refine same_at hin ?_
            clear hin
            dsimp only
            go_wp2_with fail
            go_ret2
            exact ps_bad HB.out.1 HB.out.2
        | false =>
          have heq := hR.eq
          rw [if_neg (by simp), List.append_nil] at heq
          have hok := HM.out.2.2.1 (by rw [heq]; exact hR.nm)
          have hpt : pts s = Dn := by rw [HM.out.1, heq]
          have hlt : (Dn.take 33).length ≤ 33 := by rw [List.length_take]; omega
          obtain ⟨q, d, rfl, hd1, hd2, hS⟩ := hR.row.si (by omega)
          by_cases h32 : Dn.length ≤ 32
          · have hl : (Dn.take 33).length = Dn.length := by rw [List.length_take]; omega
            have hT : Dn.take 33 = Dn := List.take_of_length_le (by omega)
            rw [hT] at hS hd1
            rw [hl]
            have h32I : ¬ (32 : Int) < ((Dn.length : Nat) : Int) := by omega
            have HF : Hid _ := And.intro hok (And.intro hpt (And.intro hS (And.intro hR.bel (And.intro hd1 hd2))))
            clear hok hpt hS hR heq hlt hl hT hd1 hd2
            go_wp2_with fail
            go_ret2
            have hpt := HF.out.2.1
            have := ps_good HF.out.1 (by rw [hpt]; exact h32) (by rw [hpt]; exact HF.out.2.2.1) (by rw [hpt]; exact HF.out.2.2.2.2) HF.out.2.2.2.1
            rw [hpt] at this
            exact this
          · have hl : (Dn.take 33).length = 33 := by rw [List.length_take]; omega
            rw [hl]
            have HF : Hid _ := And.intro hok (And.intro hpt hR.bel)
            clear hok hpt hS hR heq hlt hl hd1 hd2
            go_wp2_with fail
            go_ret2
            exact ps_long HF.out.1 (by rw [HF.out.2.1]; omega) HF.out.2.2
end Go.Proofs.Ytfchclpglcogoaa
