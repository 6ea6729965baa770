/- The document's disk: Image. -/
import Derived.Test.YtnbknoibelajaabRefFail
namespace Go.Proofs.Ytnbknoibelajaab
open Go.RowKit Go.Maps

/-- Slices of 128 bytes as an image that is read. -/
theorem rows_ib {B : Nat} {w : World} {v : Value} {n : Nat} {ps : List (Nat × Nat)} {L : Nat → List Int} (h : w.ownsRow B 30 1 v n (ps.map slc)) (hel : ∀ (i : Nat) (p : Nat × Nat), ps[i]? = some p → Own B w p.1 128 p.2 (L i)) (hs : ∀ i, Num.Byt (L i)) (hn : n ≤ 2048) : ∃ p c, v = .slice p n c ∧ IB w p n (imgL L n) := by
  have hl : ps.length = n := by have := h.1; simpa using this
  obtain ⟨p, c, e, hp⟩ := row_case h
  refine ⟨p, c, e, by simp [imgL], by omega, fun h0 => ?_⟩
  obtain ⟨g, rfl⟩ := hp h0
  subst e
  refine ⟨g, 0, rfl, fun i x hx => ?_⟩
  have hi : i < n := by have := (List.getElem?_eq_some_iff.1 hx).1; simpa [imgL] using this
  have ex : x = L i := by simpa [imgL, hi] using hx.symm
  subst ex
  have hpi : ps[i]? = some (ps[i]'(by omega)) := List.getElem?_eq_getElem _
  refine ⟨_, 128, (ps[i]'(by omega)).2, ?_, (hel i _ hpi).bi (by omega) (hs i)⟩
  rw [Nat.zero_add, h.cellAt i (by omega), List.getElem?_map, hpi]
  rfl

set_option maxRecDepth 10000 in
set_option maxHeartbeats 1000000 in
theorem rimage_ok {B : Nat} {w : World} {x : Nat} {bv qv fv : Value} {gB gQ : List (Nat × Nat)} {S : St} (h : RI B w x bv qv fv gB gQ S) (hS : Ok S) : Calls Try.prog 38 #[.pointer (some ⟨x, 0, none⟩)] w fun e w' => ∃ (v : Value) (ps : List (Nat × Nat)), e = .returned v ∧ w'.ownsRow w.heap.size 30 1 v S.N (ps.map slc) ∧ (∀ (i : Nat) (p : Nat × Nat), ps[i]? = some p → Own w.heap.size w' p.1 128 p.2 (S.f i)) ∧ Below w.heap.size w w' := by
  obtain ⟨i9, hi9, hx0, hx1, hx2⟩ := info_parts info30
  obtain ⟨gb, cb, hbv⟩ := h.bcase hS.N1
  have hc := h.c0
  rw [hbv] at hc
  have hN2 := hS.N2
  obtain ⟨n, hn⟩ : ∃ n, n = S.N := ⟨_, rfl⟩
  have HN := (show Hid (n = S.N) from hn)
  rw [← hn] at hc hN2 ⊢
  clear hn
  go_enter Try.func38, Try.ntmps38
  go_wp2_with fail
  go_loopw [3, 11] (fun v i wr => ∃ (j : Nat) (ps : List (Nat × Nat)) (u : Value), j ≤ n ∧ i = .int .i64 (j : Int) ∧ u = v ∧ wr.ownsRow w.heap.size 30 1 u j (ps.map slc) ∧ (∀ (i : Nat) (p : Nat × Nat), ps[i]? = some p → Own w.heap.size wr p.1 128 p.2 (S.f i)) ∧ Below w.heap.size w wr) (fun _ i _ => n - (intOf i).toNat)
  case atStart => exact ⟨0, [], _, by omega, rfl, rfl, World.ownsRow_nil _ _ _ _, by simp, Below.refl _ _⟩
  case round =>
    obtain ⟨j, ps, u, hj, rfl, rfl, hown, hel, hb⟩ := hrel
    by_cases hlt : j < n
    · have hr := h.later hb
      obtain ⟨p, hp, hpc, hpo⟩ := hr.bcell hbv (b := j) (by rw [← HN.out]; exact hlt)
      unfold slc at hpc
      have hjI : (j : Int) < (n : Int) := by omega
      have hbi := hpo.bi (by omega) (hS.sec j).2
      go_wp2_with fail
      refine (copied_ok _ 128 _ (S.f j) wr hbi).mono ?_
      rintro e w1 ⟨g1, c1, rfl, ho1, hb1⟩
      have hown1 := ownsRow_kept hown (fun k hk => hb1.block k (hown.lt k hk).2)
      have hel1 : ∀ (i : Nat) (p : Nat × Nat), ps[i]? = some p → Own w.heap.size w1 p.1 128 p.2 (S.f i) := fun i p hp => (hel i p hp).kept hb1
      have hb2 := (Below.refl w1.heap.size w1).alloc (Nat.le_refl _) (.cells #[.slice (some ⟨g1, 0, none⟩) 128 c1] 30)
      have hown2 := ownsRow_kept hown1 (fun k hk => hb2.block k (hown1.lt k hk).2)
      have hbw := hb.trans (hb1.mono hb.size)
      have hnews : ∀ i u, [slc (g1, c1)][i]? = some u → (w1.alloc (.cells #[.slice (some ⟨g1, 0, none⟩) 128 c1] 30)).cell? ((⟨w1.heap.size, 0, none⟩ : Addr).add i) = some u := World.news_of_block (cs := #[slc (g1, c1)]) (t := 30) (fr := (0, 0)) (at_new rfl)
      have hone : ∀ u ∈ [slc (g1, c1)], u.oneCell' = true := by intro u hu; simp at hu; subst hu; rfl
      have HN1 := (show Hid _ from hnews)
      have HO := (show Hid _ from hone)
      clear hnews hone hel hown hpc hbi hpo hr
      obtain ⟨LL, HLL⟩ : ∃ LL, Hid (ps.map slc = LL) := ⟨_, rfl⟩
      rw [HLL.out] at hown2
      go_wp2_with (at_builtin; refine wpList_append_own _ rfl _ _ 37 rfl w.heap.size 30 i9 (.slice none 0 0) 1 24 Try.underlying37 hi9 hx0 hx1 hx2 rfl (by decide) u j LL rfl hown2 ⟨w1.heap.size, 0, none⟩ 1 1 [slc (g1, c1)] rfl rfl HN1.out HO.out (by unfold maxLen; omega) (by omega) (by simp only [World.size_alloc]; have := hbw.size; omega) ?_)
      intro v2 w3 hown3 hgrow3 _
      rw [← HLL.out] at hown3
      have hb3 := (hbw.alloc hbw.size (.cells #[.slice (some ⟨g1, 0, none⟩) 128 c1] 30)).grown hgrow3 (by simp only [World.size_alloc]; have := hbw.size; omega) (fun k hk => (hown2.lt k hk).1)
      have hkeep : ∀ {g c : Nat} {xs : List Int}, Own w.heap.size w1 g 128 c xs → Own w.heap.size w3 g 128 c xs := fun ho => by
        have ho2 := ho.kept hb2
        exact ownsRow_kept ho2 (fun k hk => hgrow3.block k (World.ownsRow.lt ho2 k hk).2 (fun e => owns_ne ho2 hown2 (by decide) hk e.symm))
      go_wp2
      go_roundw
      case rel =>
        have hl : ps.length = j := by have := hown1.1; simpa using this
        refine ⟨j + 1, ps ++ [(g1, c1)], _, by omega, by go_num, rfl, ?_, ?_, hb3⟩
        · rw [List.map_append]; exact hown3
        · intro i q hq
          by_cases hi : i < j
          · rw [List.getElem?_append_left (by omega)] at hq
            exact hkeep (hel1 i q hq)
          · rw [List.getElem?_append_right (by omega)] at hq
            have hi0 : i - ps.length = 0 := by have := (List.getElem?_eq_some_iff.1 hq).1; simpa using this
            rw [hi0] at hq
            simp at hq
            subst hq
            obtain rfl : i = j := by omega
            exact hkeep (ho1.base hb.size)
      case measure => simp [intOf]; omega
    · obtain rfl : j = n := by omega
      go_wp2
      go_ret
      exact ⟨_, ps, rfl, hown, hel, hb⟩
end Go.Proofs.Ytnbknoibelajaab
