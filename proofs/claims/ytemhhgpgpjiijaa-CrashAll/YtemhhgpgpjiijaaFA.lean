/- crash.areOf: whether all of some numbers are in a list. -/
import Derived.Test.YtemhhgpgpjiijaaWin
namespace Go.Proofs.Ytemhhgpgpjiijaa
open Go.RowKit Go.Maps
set_option linter.unusedVariables false

theorem row_win {B n : Nat} {w : World} {v : Value} {zs : List Int} (h : w.ownsRow B 3 1 v n (zs.map (Value.int .i64))) : Win B w v zs := by
  have hl : zs.length = n := by have := h.1; simpa using this
  rcases h.2 with ⟨rfl, rfl⟩ | ⟨g, cap, cur, rfl, hB, hg, hc, hm, hcs, ht⟩
  · exact .inl ⟨rfl, List.eq_nil_of_length_eq_zero hl⟩
  · refine .inr ⟨g, [], cur.toList.drop n, cap - n, ?_, hB, ?_, by simp; omega, by omega⟩
    · rw [hl, show n + (cap - n) = cap by omega]; rfl
    · refine hg.trans (row_eq ?_)
      apply Array.ext'
      rw [Nat.mul_one] at ht
      show cur.toList = [] ++ ints zs ++ cur.toList.drop n
      rw [List.nil_append, ints, ← ht, List.take_append_drop]

theorem split_at {zs : List Int} {x : Int} {i : Nat} (hi : i < zs.length) (hx : zs.getD i 0 = x) : zs = zs.take i ++ x :: zs.drop (i + 1) := by
  have e : zs[i] = x := by
    rw [← hx, List.getD_eq_getElem?_getD, List.getElem?_eq_getElem hi]; rfl
  conv => lhs; rw [← List.take_append_drop i zs, List.drop_eq_getElem_cons hi, e]

set_option maxRecDepth 10000 in
set_option maxHeartbeats 2000000 in
theorem areOf_ok (p : Option Addr) (n c : Nat) (ns : List Int) (p2 : Option Addr) (m c2 : Nat) (xs : List Int) (w : World) (h1 : II w p n ns) (h2 : II w p2 m xs) (h64 : n ≤ 64) (hnd : xs.Nodup) (hsub : ∀ x ∈ xs, x ∈ ns) :
    Calls Try.prog 58 #[.slice p n c, .slice p2 m c2] w fun e w' => e = .returned (.bool true) ∧ Below w.heap.size w w' := by
  have hl2 := h2.len
  have hl1 := h1.len
  have hb2 := h2.big
  have HR := (show Hid _ from h1.rng)
  have HN := (show Hid _ from hnd)
  have HS := (show Hid _ from hsub)
  clear hnd hsub
  go_enter Try.func58, Try.ntmps58
  go_wp2_with fail
  refine (iclone_ok p n c ns w h1).mono ?_
  rintro e w1 ⟨v, rfl, ho, hb1⟩
  have hw1 := row_win ho
  clear ho
  go_wp2_with fail
  go_loopw [5, 13] (fun u i wr => ∃ (j : Nat) (zs : List Int) (v : Value), j ≤ m ∧ i = .int .i64 (j : Int) ∧ u = v ∧ Win w.heap.size wr v zs ∧ (∀ x ∈ xs.drop j, x ∈ zs) ∧ (∀ x ∈ zs, x ∈ ns) ∧ zs.length ≤ 64 ∧ Below w.heap.size w wr) (fun _ i _ => m - (intOf i).toNat)
  case atStart => exact ⟨0, ns, v, by omega, rfl, rfl, hw1, fun x hx => HS.out x (by simpa using hx), fun x hx => hx, by omega, hb1⟩
  case round =>
    obtain ⟨j, zs, v, hj, rfl, rfl, hw, hd, hzn, hz64, hb⟩ := hrel
    clear hw1
    by_cases hlt : j < m
    · obtain ⟨b2, o2, rfl, hc⟩ := (h2.kept hb).cells (by omega)
      have hcj := hc j hlt
      obtain ⟨x, hx⟩ : ∃ x, xs.getD j 0 = x := ⟨_, rfl⟩
      rw [hx] at hcj
      have hxd : xs.drop j = x :: xs.drop (j + 1) := by
        rw [List.drop_eq_getElem_cons (by omega)]
        congr 1
        rw [← hx, List.getD_eq_getElem?_getD, List.getElem?_eq_getElem (by omega)]; rfl
      have hxz : x ∈ zs := hd x (by rw [hxd]; simp)
      obtain ⟨pz, cz, ev, hiz⟩ := hw.ii (by omega) (fun y hy => HR.out y (hzn y hy))
      rcases hw with ⟨_, e0⟩ | ⟨g, pre, suf, k, e1, ha⟩
      · rw [e0] at hxz; cases hxz
      rw [e1] at ev ⊢
      cases ev
      have hjI : (j : Int) < (m : Int) := by omega
      have CI := (show Hid _ from index_ok _ _ (zs.length + k) zs x wr hiz)
      have HD := (show Hid _ from hd)
      have HX := (show Hid _ from hxd)
      have HZN := (show Hid _ from hzn)
      clear hiz hc hd hxd hx hzn e1
      go_wp2_with fail
      refine Calls.mono CI.out ?_
      clear CI
      rintro e w2 ⟨r, rfl, hr, rfl⟩
      rcases hr with ⟨hno, _⟩ | ⟨i, rfl, hi, hix, _⟩
      · exact absurd hxz hno
      have hsp := split_at hi hix
      obtain ⟨P, hP⟩ : ∃ P, zs.take i = P := ⟨_, rfl⟩
      obtain ⟨Q, hQ⟩ : ∃ Q, zs.drop (i + 1) = Q := ⟨_, rfl⟩
      have hPl : P.length = i := by rw [← hP, List.length_take]; omega
      rw [hP, hQ] at hsp
      subst hPl
      have CD := (show Hid _ from idelete_ok (B := w.heap.size) (w := w2) (g := g) (pre := pre) (suf := suf) (k := k) (p := P) (q := Q) (y := x) (by rw [← hsp]; exact ha) (by rw [← hsp]; exact hz64))
      rw [← hsp] at CD
      have hiI : (0 : Int) ≤ (P.length : Int) := by omega
      have hadd : wrap64 ((P.length : Int) + 1) = (P.length : Int) + 1 := by unfold wrap64; omega
      have HSP := (show Hid _ from hsp)
      have HG := (show Hid _ from ha.lo)
      clear ha hsp hP hQ hix
      go_wp2_with fail
      (try rw [hadd])
      refine Calls.mono CD.out ?_
      clear CD
      rintro e w3 ⟨⟨v3, rfl, _, hw3⟩, hg3⟩
      have hb3 : Below w.heap.size w w3 := hb.grown hg3 hb.size (fun t ht => by cases ht; exact HG.out)
      go_wp2
      go_roundw
      case rel =>
        refine ⟨j + 1, P ++ Q, v3, by omega, by go_num, rfl, hw3, fun y hy => ?_, fun y hy => HZN.out y ?_, ?_, hb3⟩
        · have hyz := HD.out y (by rw [HX.out]; exact List.mem_cons_of_mem _ hy)
          have hne : y ≠ x := fun e => by
            have hn := HN.out.sublist (List.drop_sublist j xs)
            rw [HX.out] at hn
            exact (List.pairwise_cons.1 hn).1 y hy e.symm
          rw [HSP.out, List.mem_append, List.mem_cons] at hyz
          rw [List.mem_append]
          rcases hyz with h | h | h
          · exact .inl h
          · exact absurd h hne
          · exact .inr h
        · rw [HSP.out, List.mem_append, List.mem_cons]
          rcases List.mem_append.1 hy with h | h
          · exact .inl h
          · exact .inr (.inr h)
        · have := congrArg List.length HSP.out
          simp only [List.length_append, List.length_cons] at this ⊢
          omega
      case measure => simp [intOf]; omega
    · obtain rfl : j = m := by omega
      go_wp2
      go_ret
      exact ⟨rfl, hb⟩
end Go.Proofs.Ytemhhgpgpjiijaa
