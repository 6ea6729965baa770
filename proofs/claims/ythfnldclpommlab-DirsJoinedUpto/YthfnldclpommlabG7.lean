/- DirsJoined: a path is its names, each behind a slash. -/
import Derived.Test.YthfnldclpommlabG6
namespace Go.Proofs.Ythfnldclpommlab
open Go.RowKit
set_option linter.unusedVariables false

/-- Names, each behind a slash. -/
def jn (L : List ByteArray) : ByteArray := L.foldl (fun a n => a ++ ((⟨#[47]⟩ : ByteArray) ++ n)) ⟨#[]⟩
theorem jn_snoc (L : List ByteArray) (x : ByteArray) : jn (L ++ [x]) = jn L ++ ((⟨#[47]⟩ : ByteArray) ++ x) := by simp [jn]
theorem jn_list (L : List ByteArray) : (jn L).data.toList = L.flatMap (fun n => 47 :: n.data.toList) := by
  have key : ∀ (L : List ByteArray) (a : ByteArray), (L.foldl (fun a n => a ++ ((⟨#[47]⟩ : ByteArray) ++ n)) a).data.toList = a.data.toList ++ L.flatMap (fun n => 47 :: n.data.toList) := fun L => by
    induction L with
    | nil => intro a; simp
    | cons x l ih =>
      intro a
      rw [List.foldl_cons, ih, ByteArray.data_append, ByteArray.data_append, Array.toList_append, Array.toList_append, List.flatMap_cons]
      simp
  have := key L ⟨#[]⟩
  rw [show jn L = L.foldl (fun a n => a ++ ((⟨#[47]⟩ : ByteArray) ++ n)) ⟨#[]⟩ from rfl, this]
  rfl
theorem cps_join (r : ByteArray) : (cps r).flatMap (fun n => 47 :: n.data.toList) = 47 :: r.data.toList := by
  generalize hn : r.size = n
  induction n using Nat.strongRecOn generalizing r with
  | ind n ih =>
    cases h : cutC r with
    | false =>
      have h1 : ixS r = -1 := by
        unfold cutC at h
        have := of_decide_eq_false h
        simpa using this
      rw [cps_no h]
      unfold cutA
      rw [if_pos h1]
      simp
    | true =>
      have h1 : ixS r ≠ -1 := by unfold cutC at h; exact of_decide_eq_true h
      obtain ⟨i, hi, hlt⟩ := ixS_lt h1
      have h47 := (Lib.indexByte_some (l := r.data.toList) (c := 47) (o := i) hi).1
      have hsm := cutB_size h
      have hih := ih _ (by omega) (cutB r) rfl
      rw [cps_yes h, List.flatMap_cons, hih]
      unfold cutA cutB
      rw [if_neg h1, if_neg h1, hi, Int.toNat_natCast, ext_list, ext_list, List.drop_zero]
      obtain ⟨hl, h47'⟩ := List.getElem?_eq_some_iff.1 h47
      have hsz : r.data.toList.length = r.size := by rw [Array.length_toList]; rfl
      rw [List.take_of_length_le (l := r.data.toList.drop (i + 1)) (by rw [List.length_drop]; omega)]
      have e : r.data.toList = r.data.toList.take i ++ 47 :: r.data.toList.drop (i + 1) := by
        rw [← h47', List.getElem_cons_drop, List.take_append_drop]
      show (47 :: r.data.toList.take (i - 0)) ++ (47 :: r.data.toList.drop (i + 1)) = 47 :: r.data.toList
      rw [Nat.sub_zero, List.cons_append, ← e]
theorem jn_take_le (L : List ByteArray) (k : Nat) : (jn (L.take k)).size ≤ (jn L).size := by
  have h1 : ∀ a : ByteArray, a.size = a.data.toList.length := fun a => by rw [Array.length_toList]; rfl
  rw [h1, h1, jn_list, jn_list]
  have h2 : L.flatMap (fun n => (47 : UInt8) :: n.data.toList) = (L.take k).flatMap (fun n => 47 :: n.data.toList) ++ (L.drop k).flatMap (fun n => 47 :: n.data.toList) := by rw [← List.flatMap_append, List.take_append_drop]
  rw [h2, List.length_append]
  omega
theorem bytes_ext {a b : ByteArray} (h : a.data.toList = b.data.toList) : a = b := by
  apply ByteArray.ext
  exact Array.toList_inj.1 h
theorem first_list {s : ByteArray} (h : slB s = true) : s.data.toList = 47 :: (s.extract 1 s.size).data.toList := by
  have h1 := slB_size h
  have h2 := slB_at h1
  rw [h] at h2
  have h3 : s[0] = 47 := of_decide_eq_true h2.symm
  have h4 := at_list s 0 h1
  rw [h3] at h4
  have hsz : s.data.toList.length = s.size := by rw [Array.length_toList]; rfl
  rw [ext_list, List.take_of_length_le (by rw [List.length_drop]; omega)]
  obtain ⟨hl, h5⟩ := List.getElem?_eq_some_iff.1 h4
  rw [← h5, List.getElem_cons_drop, List.drop_zero]

theorem joined {s : ByteArray} (h : spE s = 0) : (spL s = [] ∧ s = ⟨#[47]⟩) ∨ (spL s ≠ [] ∧ jn (spL s) = s) := by
  have hok : okP s := by
    by_cases hk : okP s
    · exact hk
    · unfold spE at h; rw [if_neg hk] at h; cases h
  have hl : (pts s).length ≤ 32 := by
    unfold spE at h
    rw [if_pos hok] at h
    split at h
    · assumption
    · cases h
  have hsp : spL s = pts s := by unfold spL; rw [if_pos ⟨hok, hl⟩]
  rw [hsp]
  have hfl := first_list hok.1
  by_cases h1 : s.size = 1
  · refine .inl ⟨by unfold pts; rw [if_pos h1], ?_⟩
    apply bytes_ext
    rw [hfl, ext_list, h1]
    have hsz : s.data.toList.length = s.size := by rw [Array.length_toList]; rfl
    rw [List.drop_of_length_le (by omega)]
    rfl
  · have hp : pts s = cps (s.extract 1 s.size) := by unfold pts; rw [if_neg h1]
    refine .inr ⟨?_, ?_⟩
    · rw [hp, cps]
      simp
    · apply bytes_ext
      rw [jn_list, hp, cps_join, ← hfl]

set_option maxRecDepth 20000 in
set_option maxHeartbeats 4000000 in
theorem dirsJoined_walk (s : ByteArray) (w : World) (hs : s.size ≤ 2097152) : Calls Try.prog 7 #[.string s] w fun e w' => e = .returned (.bool true) ∧ Below w.heap.size w w' := by
  have h1 := Split_ok s w (by omega)
  obtain ⟨L, hL⟩ : ∃ L, spL s = L := ⟨_, rfl⟩
  obtain ⟨E, hE⟩ : ∃ E, spE s = E := ⟨_, rfl⟩
  have hL32 : L.length ≤ 32 := by
    rw [← hL]
    unfold spL
    split
    · rename_i hx; exact hx.2
    · simp
  have hnoL : E ≠ 0 → L = [] := fun h => by
    rw [← hL]
    rw [← hE] at h
    unfold spE at h
    unfold spL
    rw [if_neg]
    intro hx
    rw [if_pos hx.1, if_pos hx.2] at h
    exact h rfl
  have HL : Hid _ := And.intro hL (And.intro hE hnoL)
  clear hL hE hnoL
  go_enter Try.func7, Try.ntmps7
  go_wp2_with fail
  refine h1.mono ?_
  rintro _ w1 ⟨q1, d1, rfl, hS1, hb1, hd1, hd2⟩
  clear h1
  rw [HL.out.1] at hS1 hd1
  rw [HL.out.1, HL.out.2.1]
  have h2 := rSplit_ok s w1 hs
  have H1 : Hid _ := And.intro hS1 hb1
  clear hS1 hb1
  dsimp only
  go_wp2_with fail
  refine h2.mono ?_
  rintro _ w2 ⟨q2, d2, rfl, hS2, hb2, _, _⟩
  clear h2 hS2
  rw [HL.out.1, HL.out.2.1]
  have H2 : Hid _ := And.intro (H1.out.1.kept hb2) (grew_trans H1.out.2 hb2)
  clear hb2
  by_cases h0 : E = 0
  · subst h0
    dsimp only
    go_wp2_with fail
    go_loopw [7, 32] (fun v i wr => ∃ j : Nat, j ≤ L.length ∧ v = .string (jn (L.take j)) ∧ i = .int .i64 (j : Int) ∧ Below w2.heap.size w2 wr) (fun _ i _ => L.length - (intOf i).toNat)
    case atStart => exact ⟨0, by omega, rfl, rfl, Below.refl _ _⟩
    case round =>
      obtain ⟨j, hj, rfl, rfl, hb⟩ := hrel
      by_cases hlt : j < L.length
      · obtain ⟨x, hx⟩ : ∃ x, L[j]? = some x := ⟨_, List.getElem?_eq_getElem hlt⟩
        obtain ⟨b, o, rfl, hcs⟩ := (H2.out.1.kept hb).cells (by omega)
        have c0 := hcs j x hx
        have hjI : (j : Int) < (L.length : Int) := by omega
        have hj0 : (0 : Int) ≤ (j : Int) := by omega
        have hnx : jn (L.take (j + 1)) = jn (L.take j) ++ ((⟨#[47]⟩ : ByteArray) ++ x) := by rw [List.take_add_one, hx]; exact jn_snoc _ _
        have hjz : (jn (L.take j)).size + (1 + x.size) ≤ 2097152 := by
          have h3 := jn_take_le L (j + 1)
          rw [hnx, ByteArray.size_append, ByteArray.size_append] at h3
          have h4 : (⟨#[47]⟩ : ByteArray).size = 1 := rfl
          rw [h4] at h3
          rcases joined HL.out.2.1 with ⟨hl0, _⟩ | ⟨_, hjs⟩
          · rw [HL.out.1] at hl0; rw [hl0] at hlt; simp at hlt
          · rw [HL.out.1] at hjs; rw [hjs] at h3; omega
        have HX : Hid _ := And.intro hnx hb
        clear hcs hx hnx hb
        generalize jn (L.take j) = A at *
        have hz1 : ¬ 9223372036854775807 < 1 + x.size := by omega
        have hz2 : ¬ 9223372036854775807 < A.size + (1 + x.size) := by omega
        clear hjz
        go_wp2_with fail
        go_roundw
        case rel => exact ⟨j + 1, by omega, by rw [HX.out.1], by go_num, HX.out.2⟩
        case measure => simp [intOf]; omega
      · obtain rfl : j = L.length := by omega
        have hnt : ¬ (L.length : Int) < (L.length : Int) := by omega
        rw [List.take_length]
        have hba := Base_ok s wr (by omega)
        have HB : Hid _ := hb
        clear hb
        rcases joined HL.out.2.1 with ⟨hl0, hs47⟩ | ⟨hlne, hjs⟩
        · rw [HL.out.1] at hl0
          have hbs : bs s = ([], ⟨#[]⟩, 1) := by unfold bs; rw [if_neg (by simp [HL.out.2.1]), HL.out.1, hl0]; rfl
          subst hl0
          have hq : ((jn []).toList == []) = true := by decide +kernel
          have hq2 : ([47] == s.toList) = true := by rw [hs47]; decide +kernel
          have HBS : Hid _ := hbs
          clear hbs hs47
          generalize jn [] = J at *
          go_wp2_with fail
          refine hba.mono ?_
          rintro _ w3 ⟨q3, d3, rfl, hS3, hb3⟩
          clear hba hS3
          rw [HBS.out]
          have H3 : Hid _ := grew_trans H2.out.2 (grew_trans HB.out hb3)
          clear hb3
          dsimp only
          go_wp2_with fail
          go_ret
          exact ⟨by simp, H3.out⟩
        · rw [HL.out.1] at hlne hjs
          obtain ⟨k, hk⟩ : ∃ k, L.length = k + 1 := ⟨L.length - 1, by have : L.length ≠ 0 := fun e => hlne (List.length_eq_zero_iff.1 e); omega⟩
          obtain ⟨x, hx⟩ : ∃ x, L[k]? = some x := ⟨_, List.getElem?_eq_getElem (by omega)⟩
          have hg : L.getLast? = some x := by rw [List.getLast?_eq_getElem?, hk]; exact hx
          have hbs : bs s = (L.dropLast, x, 0) := by unfold bs; rw [if_neg (by simp [HL.out.2.1]), HL.out.1, hg]
          have hdl : L.dropLast = L.take k := by rw [List.dropLast_eq_take, hk]; rfl
          rw [hdl] at hbs
          have hlen : (L.take k).length = k := by rw [List.length_take]; omega
          have hsz : s.size ≠ 0 := fun e => by
            have h2 : (jn L).data.toList.length = 0 := by rw [hjs, Array.length_toList]; exact e
            rw [jn_list] at h2
            cases L with
            | nil => exact hlne rfl
            | cons y l => simp at h2
          rw [hjs]
          have hq : (s.toList == []) = false := by rw [toList_nil, decide_eq_false hsz]
          have HK : Hid _ := And.intro hk (And.intro hx (And.intro hbs hlen))
          have hkd : k + 1 ≤ d1 := by omega
          rw [hk]
          clear hk hx hg hbs hdl hlen hsz hjs hlne hlt hnt
          go_wp2_with fail
          refine hba.mono ?_
          rintro _ w3 ⟨q3, d3, rfl, hS3, hb3⟩
          clear hba
          rw [HK.out.2.2.1] at hS3 ⊢
          have hS3' : SI w3 q3 k (L.take k) := by have := hS3; rw [show ((L.take k, x, (0 : Int)) : List ByteArray × ByteArray × Int).1 = L.take k from rfl, HK.out.2.2.2] at this; exact this
          have hb23 := grew_trans HB.out hb3
          have hSL := H2.out.1.kept hb23
          rw [HK.out.1] at hSL
          obtain ⟨b, o, rfl, hcs⟩ := hSL.cells (by omega)
          have c0 := hcs k x HK.out.2.1
          have heq := sequal_same q3 (some ⟨b, o, none⟩) k k d3 d1 (L.take k) w3 hS3' (hSL.take k (by omega))
          have h5 : ((k + 1 : Nat) : Int) - 1 = (k : Int) := by omega
          have h6 : (k : Int) < ((k + 1 : Nat) : Int) := by omega
          have h7 : (0 : Int) ≤ (k : Int) := by omega
          have h8 : (k : Int) ≤ (d1 : Int) := by omega
          have h9 : ¬ ((k + 1 : Nat) : Int) = 0 := by omega
          have hl3 : ((L.take k, x, (0 : Int)) : List ByteArray × ByteArray × Int).1.length = k := HK.out.2.2.2
          rw [hl3]
          have H3 : Hid _ := grew_trans H2.out.2 hb23
          clear hcs hSL hb23 hb3 hS3 hS3' hl3
          dsimp only
          go_wp2_with fail
          refine grew_at heq ?_
          intro w4 hb4
          clear heq
          have hfin := grew_trans H3.out hb4
          dsimp only
          go_wp2_with fail
          go_ret
          exact ⟨by simp, hfin⟩
  · have hLn := HL.out.2.2 h0
    subst hLn
    dsimp only
    go_wp2_with fail
    go_ret
    exact ⟨rfl, H2.out.2⟩
end Go.Proofs.Ythfnldclpommlab
