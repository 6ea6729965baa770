/- dirs, the document's: Split. -/
import Derived.Test.YthfnldclpommlabG3
namespace Go.Proofs.Ythfnldclpommlab
open Go.RowKit
set_option linter.unusedVariables false

set_option maxRecDepth 20000 in
theorem sr_appL {B : Nat} {w : World} {v1 : Value} {A : List ByteArray} (h1 : Sr B w v1 A) (g : Nat) (x : ByteArray) (hg : w.heap[g]? = some (.cells #[.string x] 9)) (hB : B ≤ w.heap.size) (hl : A.length ≤ 4294967296) (ty : TypeId) :
    ∃ v' w', (Builtin.append_ #[28, 28] ty #[v1, .slice (some ⟨g, 0, none⟩) 1 1]).run Try.prog w = .ok v' w' ∧ Sr B w' v' (A ++ [x]) ∧ w.grownBy w' v1.ownBlock := by
  obtain ⟨i0, hi, hz0, hz1, hz2⟩ := info_parts info9z
  obtain ⟨v', w', hr, ho, hgr, _, hb⟩ := run_append_own_at (P := Try.prog) w B 28 ty 9 i0 _ 1 16 Try.underlying28 hi hz0 hz1 hz2 rfl (by decide) v1 A.length (A.map Value.string) h1 ⟨g, 0, none⟩ 1 1 [.string x] rfl (fun j u hu => by
    rw [Addr.add_mid, Nat.zero_add]
    match j, hu with
    | 0, hu => simp at hu; subst hu; exact cell_row hg 0 _ rfl
    | j + 1, hu => simp at hu) (fun u hu => by
      simp only [List.mem_cons, List.not_mem_nil, or_false] at hu
      rw [hu]; rfl) (by unfold maxLen; omega) (by omega) hB
  refine ⟨v', w', hr, ?_, hgr⟩
  unfold Sr
  rw [List.length_append, List.map_append]
  exact ho

theorem at_list (s : ByteArray) (i : Nat) (h : i < s.size) : s.data.toList[i]? = some s[i] := by
  rw [Array.getElem?_toList, Array.getElem?_eq_getElem (by exact h)]
  rfl
theorem byte47 (b : UInt8) : ((b.toNat : Int) == 47) = decide (b = 47) := by
  rw [Bool.eq_iff_iff, beq_iff_eq, decide_eq_true_iff]
  constructor
  · intro h
    apply UInt8.toNat_inj.1
    have : b.toNat = 47 := by omega
    rw [this]; rfl
  · intro h; rw [h]; rfl
theorem slB_at {s : ByteArray} (h : 1 ≤ s.size) : slB s = decide (s[0] = 47) := by
  unfold slB
  rw [Bool.eq_iff_iff, beq_iff_eq, decide_eq_true_iff, Lib.toList_data, ext_list]
  have h0 := at_list s 0 h
  rw [List.drop_zero, show 1 - 0 = 1 from rfl, List.take_one]
  rw [show s.data.toList.head? = s.data.toList[0]? by rw [List.head?_eq_getElem?], h0]
  simp

/-- What stands while the document splits a path. -/
structure Rsp (w wr : World) (s : ByteArray) (a i : Nat) (Dn : List ByteArray) (v : Value) : Prop where
  eq : cps (s.extract 1 s.size) = Dn ++ (if a ≤ s.size then cps (s.extract a s.size) else [])
  nm : ∀ x ∈ Dn, Nm x
  row : Sr w.heap.size wr v Dn
  bel : Below w.heap.size w wr
  len : Dn.length ≤ i
  ord : a ≤ i ∧ i ≤ s.size + 1 ∧ 1 ≤ a
  fin : i = s.size + 1 → a = s.size + 1
  no : ∀ k : Nat, a ≤ k → k < i → s.data.toList[k]? ≠ some 47

set_option maxRecDepth 20000 in
set_option maxHeartbeats 4000000 in
theorem rSplit_ok (s : ByteArray) (w : World) (hs : s.size ≤ 2097152) : Calls Try.prog 22 #[.string s] w fun e w' => PS2 w s e w' := by
  have hnil := toList_nil s
  by_cases h0 : s.size = 0
  · rw [decide_eq_true h0] at hnil
    have hq : (s.toList == [47]) = false := by rw [beq_iff_eq] at hnil; rw [hnil]; rfl
    have HM : Hid (¬ okP s) := fun hk => by have := slB_size hk.1; omega
    clear h0
    go_enter Try.func22, Try.ntmps22
    go_wp2_with fail
    go_ret2
    exact ps_bad HM.out (Below.refl _ _)
  · rw [decide_eq_false h0] at hnil
    have h1 : 1 ≤ s.size := by omega
    have hsl := slB_at h1
    have hb0 := byte47 s[0]
    have hsI : (0 : Int) < (s.size : Int) := by omega
    have hsI2 : ¬ (s.size : Int) = 0 := by omega
    by_cases h47 : s[0] = 47
    · rw [decide_eq_true h47] at hsl hb0
      by_cases hone : s.size = 1
      · have hq : (s.toList == [47]) = true := by
          rw [beq_iff_eq, Lib.toList_data]
          apply List.ext_getElem?
          intro k
          cases k with
          | zero => rw [at_list s 0 h1, h47]; rfl
          | succ k => rw [List.getElem?_eq_none (by rw [Array.length_toList]; show s.size ≤ _; omega)]; rfl
        have HM : Hid _ := And.intro hsl hone
        clear hsl hb0 h47 hone hnil h0 h1
        go_enter Try.func22, Try.ntmps22
        go_wp2_with fail
        go_ret2
        exact ps_root HM.out.1 HM.out.2 (Below.refl _ _)
      · have hq : (s.toList == [47]) = false := by
          rw [beq_eq_false_iff_ne, Lib.toList_data]
          intro e
          have h2 : s.data.toList.length = s.size := by rw [Array.length_toList]; rfl
          rw [e] at h2
          simp at h2
          omega
        have hpts : pts s = cps (s.extract 1 s.size) := by unfold pts; rw [if_neg hone]
        have hbad : ∀ x ∈ cps (s.extract 1 s.size), ¬ Nm x → ¬ okP s := fun x hx hn hk => by
          rcases hk.2 with h2 | h2
          · exact hone h2
          · exact hn (h2 x hx)
        have hgood : (∀ x ∈ cps (s.extract 1 s.size), Nm x) → okP s := fun hx => ⟨hsl, .inr hx⟩
        have HM : Hid _ := And.intro hpts (And.intro hbad hgood)
        have hbI : ((s[0].toNat : Int) != 47) = false := by rw [bne, hb0]; rfl
        clear hpts hbad hgood hsl h47 h0 hone hb0
        go_enter Try.func22, Try.ntmps22
        go_wp2_with fail
        go_loopw [4, 5, 6] (fun v f x wr => ∃ a i Dn, f = .int .i64 ((a : Nat) : Int) ∧ x = .int .i64 ((i : Nat) : Int) ∧ Rsp w wr s a i Dn v) (fun _ _ x _ => s.size + 1 - (intOf x).toNat)
        case atStart => exact ⟨1, 1, [], rfl, rfl, ⟨by rw [if_pos h1]; rfl, (fun x hx => by cases hx), Sr.nil _ _, Below.refl _ _, Nat.zero_le _, ⟨Nat.le_refl _, by omega, Nat.le_refl _⟩, (fun h => by omega), fun k h2 h3 => by omega⟩⟩
        case round =>
          clear hnil hq hbI
          obtain ⟨a, i, Dn, rfl, rfl, hR⟩ := hrel
          have HR : Hid _ := hR
          have hord := hR.ord
          have hlen := hR.len
          by_cases hlt : i ≤ s.size
          · have hiI : (i : Int) ≤ (s.size : Int) := by omega
            have hi0 : (0 : Int) ≤ (i : Int) := by omega
            have haI : (a : Int) ≤ (i : Int) := by omega
            have ha0 : (0 : Int) ≤ (a : Int) := by omega
            have heq := hR.eq
            rw [if_pos (by omega)] at heq
            by_cases hend : i < s.size ∧ s.data.toList[i]? ≠ some 47
            · obtain ⟨hilt, hn47⟩ := hend
              have hiL : (i : Int) < (s.size : Int) := by omega
              have hne : ¬ (i : Int) = (s.size : Int) := by omega
              have hb := byte47 s[i]
              rw [decide_eq_false (fun e => hn47 (by rw [at_list s i hilt, e]))] at hb
              have HX : Hid (Rsp w wr s a (i + 1) Dn _) := ⟨hR.eq, hR.nm, hR.row, hR.bel, by omega, ⟨by omega, by omega, by omega⟩, (fun h => by omega), fun k h2 h3 => by
                by_cases e : k = i
                · rw [e]; exact hn47
                · exact hR.no k h2 (by omega)⟩
              clear hR heq hn47
              go_wp2_with fail
              go_roundw
              case rel => exact ⟨a, i + 1, Dn, rfl, by go_num, HX.out⟩
              case measure => simp [intOf]; omega
            · have hpart : cps (s.extract 1 s.size) = (Dn ++ [s.extract a i]) ++ (if i + 1 ≤ s.size then cps (s.extract (i + 1) s.size) else []) := by
                rw [heq, List.append_assoc]
                congr 1
                by_cases hie : i = s.size
                · rw [if_neg (by omega), part_end (by omega) (fun k hk => by
                    by_cases e : k < i
                    · exact hR.no k hk e
                    · rw [List.getElem?_eq_none (by rw [Array.length_toList]; show s.size ≤ _; omega)]; simp), hie]
                  rfl
                · rw [if_pos (by omega), part_next hord.1 (by omega) (by
                    by_cases e : s.data.toList[i]? = some 47
                    · exact e
                    · exact absurd ⟨by omega, e⟩ hend) hR.no]
                  rfl
              have hin := risName_ok (s.extract a i) wr (by rw [ext_size _ _ _ hlt]; omega)
              have HX : Hid _ := And.intro hpart hend
              clear hpart hR heq
              by_cases hnm : Nm (s.extract a i)
              · rw [decide_eq_true hnm] at hin
                have hnx : ∀ x ∈ Dn ++ [s.extract a i], Nm x := fun x hx => by
                  rcases List.mem_append.1 hx with hx | hx
                  · exact HR.out.nm x hx
                  · rw [List.mem_singleton.1 hx]; exact hnm
                have hbB := grew_alloc wr (.cells #[.string (s.extract a i)] 9)
                obtain ⟨v', w3, hr3, hR3, hg3⟩ := sr_appL (HR.out.row.kept hbB) _ (s.extract a i) (heap_new wr _) (by have := hbB.size; have := HR.out.bel.size; omega) (by omega) 28
                have hb3 : Below w.heap.size w w3 := grown_bel (grew_trans HR.out.bel hbB) hg3 (fun g hg => (HR.out.row.lt g hg).1)
                have HF : Hid (Rsp w w3 s (i + 1) (i + 1) (Dn ++ [s.extract a i]) v') := ⟨HX.out.1, hnx, hR3, hb3, by rw [List.length_append]; simp; omega, ⟨Nat.le_refl _, by omega, by omega⟩, (fun h => by omega), fun k h2 h3 => by omega⟩
                clear hnx hbB hR3 hg3 hb3 hnm
                by_cases hie : i = s.size
                · subst hie
                  clear hend
                  go_wp2_with fail
                  refine same_at hin ?_
                  clear hin
                  dsimp only
                  go_wp2_with (refine wpList_append_run rfl _ _ 28 28 rfl rfl rfl hr3 ?_)
                  clear hr3
                  go_roundw
                  case rel => exact ⟨s.size + 1, s.size + 1, _, by go_num, by go_num, HF.out⟩
                  case measure => simp [intOf] <;> omega
                · have hilt : i < s.size := by omega
                  have hiL : (i : Int) < (s.size : Int) := by omega
                  have hne : ¬ (i : Int) = (s.size : Int) := by omega
                  have hb := byte47 s[i]
                  have h47' : s[i] = 47 := by
                    by_cases e : s.data.toList[i]? = some 47
                    · rw [at_list s i hilt] at e; exact Option.some.inj e
                    · exact absurd ⟨hilt, e⟩ hend
                  rw [decide_eq_true h47'] at hb
                  clear hend h47'
                  go_wp2_with fail
                  refine same_at hin ?_
                  clear hin
                  dsimp only
                  go_wp2_with (refine wpList_append_run rfl _ _ 28 28 rfl rfl rfl hr3 ?_)
                  clear hr3
                  go_roundw
                  case rel => exact ⟨i + 1, i + 1, _, by go_num, by go_num, HF.out⟩
                  case measure => simp [intOf]; omega
              · rw [decide_eq_false hnm] at hin
                have HB : Hid _ := And.intro (HM.out.2.1 _ (by rw [HX.out.1]; simp) hnm) HR.out.bel
                clear hnm
                by_cases hie : i = s.size
                · subst hie
                  clear hend
                  go_wp2_with fail
                  refine same_at hin ?_
                  clear hin
                  dsimp only
                  go_wp2_with fail
                  go_ret2
                  exact ps_bad HB.out.1 HB.out.2
                · have hilt : i < s.size := by omega
                  have hiL : (i : Int) < (s.size : Int) := by omega
                  have hne : ¬ (i : Int) = (s.size : Int) := by omega
                  have hb := byte47 s[i]
                  have h47' : s[i] = 47 := by
                    by_cases e : s.data.toList[i]? = some 47
                    · rw [at_list s i hilt] at e; exact Option.some.inj e
                    · exact absurd ⟨hilt, e⟩ hend
                  rw [decide_eq_true h47'] at hb
                  clear hend h47'
                  go_wp2_with fail
                  refine same_at hin ?_
                  clear hin
                  dsimp only
                  go_wp2_with fail
                  go_ret2
                  exact ps_bad HB.out.1 HB.out.2
          · have hie : i = s.size + 1 := by omega
            have haf := hR.fin hie
            have hnt : ¬ (i : Int) ≤ (s.size : Int) := by omega
            have heq := hR.eq
            rw [if_neg (by omega), List.append_nil] at heq
            have hok := HM.out.2.2 (by rw [heq]; exact hR.nm)
            have hpt : pts s = Dn := by rw [HM.out.1, heq]
            obtain ⟨q, d, rfl, hd1, hd2, hS⟩ := hR.row.si (by omega)
            by_cases h32 : Dn.length ≤ 32
            · have h32I : ¬ (32 : Int) < ((Dn.length : Nat) : Int) := by omega
              have HF : Hid _ := And.intro hok (And.intro hpt (And.intro hS (And.intro hR.bel (And.intro hd1 hd2))))
              clear hok hpt hS hR heq hd1 hd2 hie haf
              go_wp2_with fail
              go_ret2
              have hpt := HF.out.2.1
              have := ps_good HF.out.1 (by rw [hpt]; exact h32) (by rw [hpt]; exact HF.out.2.2.1) (by rw [hpt]; exact HF.out.2.2.2.2) HF.out.2.2.2.1
              rw [hpt] at this
              exact this
            · have h32I : (32 : Int) < ((Dn.length : Nat) : Int) := by omega
              have HF : Hid _ := And.intro hok (And.intro hpt hR.bel)
              clear hok hpt hS hR heq hd1 hd2 hie haf
              go_wp2_with fail
              go_ret2
              exact ps_long HF.out.1 (by rw [HF.out.2.1]; omega) HF.out.2.2
    · rw [decide_eq_false h47] at hsl hb0
      have hbI : ((s[0].toNat : Int) != 47) = true := by rw [bne, hb0]; rfl
      have hq : (s.toList == [47]) = false := by
        rw [beq_eq_false_iff_ne, Lib.toList_data]
        intro e
        have h2 := at_list s 0 h1
        rw [e] at h2
        exact h47 (Option.some.inj h2).symm
      have HM : Hid (¬ okP s) := fun hk => by rw [hk.1] at hsl; cases hsl
      clear hsl h47 h0
      go_enter Try.func22, Try.ntmps22
      go_wp2_with fail
      go_ret2
      exact ps_bad HM.out (Below.refl _ _)
end Go.Proofs.Ythfnldclpommlab
