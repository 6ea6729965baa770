/- The document's Blocks: an image of bytes. -/
import Derived.Test.YtknklopohdmncaaFD
namespace Go.Proofs.Ytknklopohdmncaa
open Go.RowKit Go.Maps

set_option maxRecDepth 10000 in
set_option maxHeartbeats 1000000 in
theorem rblocks_ok (b o n c m : Nat) (xs : List Int) (w : World) (h : BI w (some ⟨b, o, none⟩) n xs) (hm : n = 128 * m) (h1 : 1 ≤ m) (h2 : m ≤ 2048) (hc : n ≤ c) :
    Calls Try.prog 6 #[.slice (some ⟨b, o, none⟩) n c] w fun e w' => ∃ v vs, e = .returned (.tuple #[v, .int .i64 0]) ∧ PI w.heap.size w' v m vs (chs xs m) ∧ Below w.heap.size w w' := by
  obtain ⟨i9, hi9, hx0, hx1, hx2⟩ := info_parts info22
  obtain ⟨i0, hi, hz0, hz1, hz2⟩ := info_parts info5
  have hlen := h.len
  have h0I : ¬ (n : Int) = 0 := by omega
  have h1I : Int.tmod (n : Int) 128 = 0 := by rw [Int.tmod_eq_emod_of_nonneg (by omega)]; omega
  have h2I : ¬ (2048 : Int) < Int.tdiv (n : Int) 128 := by rw [Int.tdiv_eq_ediv_of_nonneg (by omega)]; omega
  have h3I : (n : Int) / 128 ≤ 2048 := by omega
  have hbq : ((n : Int) == 0) = false := by simpa using h0I
  have HM := (show Hid _ from hm)
  have hmn : 1 ≤ n ∧ n ≤ 262144 := by omega
  clear hm
  go_enter Try.func6, Try.ntmps6
  go_wp2_with fail
  go_loopw [4, 5] (fun v i wr => ∃ (j : Nat) (vs : List Value) (u : Value), j ≤ m ∧ i = .int .i64 ((128 * j : Nat) : Int) ∧ u = v ∧ PI w.heap.size wr u j vs (chs xs j) ∧ Below w.heap.size w wr) (fun _ i _ => n - (intOf i).toNat)
  case atStart => exact ⟨0, [], _, by omega, rfl, rfl, ⟨World.ownsRow_nil _ _ _ _, by simp [chs], by simp, by simp⟩, Below.refl _ _⟩
  case round =>
    obtain ⟨j, vs, u, hj, rfl, rfl, hp, hb⟩ := hrel
    have hm : n = 128 * m := HM.out
    by_cases hlt : j < m
    · have hltI : ((128 * j : Nat) : Int) < (n : Int) := by omega
      have hw1 : wrap64 (((128 * j : Nat) : Int) + 128) = ((128 * j + 128 : Nat) : Int) := by unfold wrap64; omega
      have hbi := (h.kept hb).piece j (by omega)
      have hb0 := (Below.refl wr.heap.size wr).alloc (Nat.le_refl _) (Obj.cells #[] 5)
      have HS := (show Hid _ from (hbi.kept hb0).src')
      have HL : Hid (((ch xs j).map (Value.int .u8)).length = 128 * 1) := by show _ = _; simp [hbi.len]
      have hbt := hbi.byt
      clear hbi hm
      go_wp2_with (at_builtin; refine wpList_append_own _ rfl _ _ 22 rfl wr.heap.size 5 i0 (.int .u8 0) 1 1 Try.underlying22 hi hz0 hz1 hz2 rfl (by decide) _ _ _ rfl (World.ownsRow_made wr #[] 0 (Nat.le_refl _) (Nat.zero_le _) rfl) ⟨b, o + 128 * j, none⟩ 128 _ ((ch xs j).map (Value.int .u8)) rfl HL.out HS.out (one_cells _) (by unfold maxLen; omega) (by omega) (by simp) ?_)
      case isFalse => exfalso; have := HM.out; omega
      intro v1 w1 ho1 hgrow1 _
      have hb1 : Below wr.heap.size wr w1 := hb0.grown hgrow1 (by simp) (by intro k hk; simp [Value.ownBlock] at hk; omega)
      obtain ⟨p1, c1, rfl, _⟩ := row_case ho1
      have hp1 := hp.kept (w' := w1) (fun k _ hk => hb1.block k hk)
      have hb2 := (Below.refl w1.heap.size w1).alloc (Nat.le_refl _) (.cells #[.slice p1 128 c1] 22)
      have hp2 := hp1.kept (w' := w1.alloc (.cells #[.slice p1 128 c1] 22)) (fun k _ hk => hb2.block k hk)
      have hbw := hb.trans (hb1.mono hb.size)
      have hnews : ∀ i u, [Value.slice p1 128 c1][i]? = some u → (w1.alloc (.cells #[.slice p1 128 c1] 22)).cell? ((⟨w1.heap.size, 0, none⟩ : Addr).add i) = some u := World.news_of_block (cs := #[Value.slice p1 128 c1]) (t := 22) (fr := (0, 0)) (at_new rfl)
      have hone : ∀ u ∈ [Value.slice p1 128 c1], u.oneCell' = true := by intro u hu; simp at hu; subst hu; rfl
      have HN1 := (show Hid _ from hnews)
      have HO := (show Hid _ from hone)
      have hrow2 := hp2.row
      clear hnews hone hgrow1 hb0 HS HL
      go_wp2_with (at_builtin; refine wpList_append_own _ rfl _ _ 23 rfl w.heap.size 22 i9 (.slice none 0 0) 1 24 Try.underlying23 hi9 hx0 hx1 hx2 rfl (by decide) u j vs rfl hrow2 ⟨w1.heap.size, 0, none⟩ 1 1 [Value.slice p1 128 c1] rfl rfl HN1.out HO.out (by unfold maxLen; omega) (by omega) (by simp only [World.size_alloc]; have := hbw.size; omega) ?_)
      intro v3 w3 hown3 hgrow3 _
      have hb3 := (hbw.alloc hbw.size (.cells #[.slice p1 128 c1] 22)).grown hgrow3 (by simp only [World.size_alloc]; have := hbw.size; omega) (fun k hk => (hrow2.lt k hk).1)
      have hkeep : ∀ (u' : Value) (l : Nat) (Lx : List Value), w1.ownsRow w.heap.size 5 1 u' l Lx → w3.ownsRow w.heap.size 5 1 u' l Lx := fun u' l Lx ho => by
        have ho2 := ownsRow_kept ho (w' := w1.alloc (.cells #[.slice p1 128 c1] 22)) (fun k hk => hb2.block k (ho.lt k hk).2)
        exact ownsRow_kept ho2 (fun k hk => hgrow3.block k (ho2.lt k hk).2 (fun e => owns_ne ho2 hrow2 (by decide) hk e.symm))
      go_wp2
      go_roundw
      case rel =>
        refine ⟨j + 1, vs ++ [.slice p1 128 c1], _, by omega, by rw [show 128 * (j + 1) = 128 * j + 128 by omega]; go_num, rfl, ?_, hb3⟩
        rw [chs_succ]
        exact hp.snoc hp1 hb.size ho1 (by omega) hbt hkeep hown3
      case measure => simp [intOf]; omega
    · obtain rfl : j = m := by omega
      have hltI : ¬ ((128 * j : Nat) : Int) < (n : Int) := by omega
      clear hm
      go_wp2
      go_ret2
      exact ⟨_, rfl, ⟨vs, hp⟩, hb⟩
end Go.Proofs.Ytknklopohdmncaa
