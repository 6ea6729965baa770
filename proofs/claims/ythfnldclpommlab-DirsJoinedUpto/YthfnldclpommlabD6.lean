/- dirs: a page is read. -/
import Derived.Test.YthfnldclpommlabD5
namespace Go.Proofs.Ythfnldclpommlab
open Go.RowKit
set_option linter.unusedVariables false

abbrev z16 : Array Value := #[.int .i64 0, .string ⟨#[]⟩, .int .i64 0, .string ⟨#[]⟩, .int .i64 0, .string ⟨#[]⟩, .int .i64 0, .string ⟨#[]⟩, .int .i64 0, .string ⟨#[]⟩, .int .i64 0, .string ⟨#[]⟩, .int .i64 0, .string ⟨#[]⟩, .int .i64 0, .string ⟨#[]⟩]
theorem z16_eq : (flat2 (List.replicate 8 ent00)).toArray = z16 := rfl
theorem info53 : (Try.prog.info? 53).map (·.size) = some 16 := by kernel_rfl
theorem flat2_one : ∀ E : List En, ∀ v ∈ flat2 E, v.oneCell' = true
  | [], v, h => by cases h
  | e :: l, v, h => by
    simp only [flat2, List.mem_cons] at h
    rcases h with rfl | rfl | h
    · rfl
    · rfl
    · exact flat2_one l v h
theorem flat2_all (E : List En) : (flat2 E).toArray.all (·.oneCell') = true := by
  rw [Array.all_eq_true]
  intro i hi
  exact flat2_one E _ (by simp)
theorem flat2_size (E : List En) (h : E.length = 8) : (flat2 E).toArray.size = 16 := by simp [flat2_len, h]

theorem bi_chk {w : World} {b o n : Nat} {xs : List Int} (h : BI w (some ⟨b, o, none⟩) n xs) (hn : n = 128) {j : Nat} (hj : j < 8) : BI w (some ⟨b, o + j * 16, none⟩) 16 (chk xs j) := by
  have hl := h.len
  refine ⟨by unfold chk; rw [List.length_take, List.length_drop]; omega, by omega, fun i => ?_, fun _ => ⟨b, o + j * 16, rfl, fun i hi => ?_⟩⟩
  · unfold chk
    rw [List.getD_eq_getElem?_getD, List.getElem?_take]
    split
    · rw [List.getElem?_drop]
      have := h.byt (j * 16 + i)
      rwa [List.getD_eq_getElem?_getD] at this
    · simp
  · obtain ⟨b', o', e, hc⟩ := h.cells (by omega)
    injection e with e
    injection e with e1 e2 _
    subst e1 e2
    rw [Nat.add_assoc, hc (j * 16 + i) (by omega)]
    unfold chk
    rw [List.getD_eq_getElem?_getD, List.getD_eq_getElem?_getD, List.getElem?_take, if_pos hi, List.getElem?_drop]

set_option maxRecDepth 20000 in
set_option maxHeartbeats 1000000 in
theorem read_no (p : Option Addr) (n c : Nat) (w : World) (hn : n ≠ 128) (hn2 : n ≤ 9223372036854775807) :
    Calls Try.prog 29 #[.slice p n c] w fun e w' => e = .returned (.tuple #[.agg z16, .bool false]) ∧ Below w.heap.size w w' := by
  have h1 : ¬ (n : Int) = 128 := by omega
  have hr0 := heap_new w (.cells z16 53)
  go_enter Try.func29, Try.ntmps29
  go_wp2_with (refine wpList_store_row rfl 53 _ _ rfl w.heap.size z16 rfl rfl 53 _ hr0 info53 rfl (flat2_all (List.replicate 8 ent00)) ?_)
  refine bodyPost_ret (v := .tuple #[.agg z16, .bool false]) (results_cell_tmp_row (p := 2) (u := 3) (ty := 53) Try.results29 _ _ w.heap.size 53 z16 (0, 0) _ rfl (setRow_heap _ _ _ _ _ _ hr0) Try.underlying53 rfl info53) rfl ?_
  exact ⟨rfl, below_setRow (grew_alloc _ _) (Nat.le_refl _) _⟩

theorem no_may {xs : List Int} (h : ¬ mayB 128 xs) : (flat2 (dec8 128 xs)).toArray = z16 ∧ decide (mayB 128 xs) = false := ⟨by unfold dec8; rw [if_neg h]; rfl, decide_eq_false h⟩
/-- What stands while a page is read. -/
structure Rdg (w wr : World) (xs : List Int) (j : Nat) : Prop where
  good : ∀ i, i < j → EGood (chk xs i)
  cl : clB (ents xs j) = false
  pg : Pge wr (w.heap.size + 1) (pgJ xs j)
  res : wr.heap[w.heap.size]? = some (.cells z16 53 (0, 0))
  bel : Below w.heap.size w wr
theorem pgJ_non {xs : List Int} {j : Nat} (h : ∀ i, i < j → EGood (chk xs i)) : ∀ e ∈ pgJ xs j, e.n = 0 → e.s = ⟨#[]⟩ := fun e he => by
  unfold pgJ at he
  rcases List.mem_append.1 he with he | he
  · unfold ents at he
    obtain ⟨i, hi, rfl⟩ := List.mem_map.1 he
    exact may_non (e := entA xs i) (egood_may (h i (List.mem_range.1 hi)))
  · rw [List.eq_of_mem_replicate he]
    intro _
    rfl
theorem Rdg.on {w wr w' : World} {xs : List Int} {j : Nat} (h : Rdg w wr xs j) (hb : Below wr.heap.size wr w') : Rdg w w' xs j :=
  ⟨h.good, h.cl, h.pg.kept hb, (hb.block _ (Array.getElem?_eq_some_iff.1 h.res).1).trans h.res, grew_trans h.bel hb⟩

set_option maxRecDepth 20000 in
set_option maxHeartbeats 2000000 in
theorem read_in (p : Option Addr) (c : Nat) (xs : List Int) (w : World) (h : BI w p 128 xs) (hc : 128 ≤ c) (hc2 : c ≤ 9223372036854775807) :
    Calls Try.prog 29 #[.slice p 128 c] w fun e w' => e = .returned (.tuple #[.agg (flat2 (dec8 128 xs)).toArray, .bool (decide (mayB 128 xs))]) ∧ Below w.heap.size w w' := by
  obtain ⟨b, o, rfl, hcells⟩ := h.cells (by omega)
  clear hcells
  have hR0 : Rdg w ((w.alloc (.cells z16 53)).alloc (.cells z16 53)) xs 0 := by
    have hb1 := grew_alloc w (.cells z16 53)
    have hb2 := grew_alloc (w.alloc (.cells z16 53)) (.cells z16 53)
    refine ⟨fun i hi => by omega, rfl, ⟨?_, pgJ_len xs (by omega), fun e he => by
      rw [pgJ_zero] at he
      rw [List.eq_of_mem_replicate he]
      intro _
      rfl⟩, ?_, grew_trans hb1 hb2⟩
    · rw [pgJ_zero, z16_eq]
      have := heap_new (w.alloc (.cells z16 53)) (.cells z16 53)
      rwa [show (w.alloc (.cells z16 53)).heap.size = w.heap.size + 1 by simp] at this
    · exact (hb2.block _ (by simp)).trans (heap_new w _)
  have HR0 : Hid _ := hR0
  clear hR0
  go_enter Try.func29, Try.ntmps29
  go_wp2_with fail
  go_loopw [12] (fun i wr => ∃ j : Nat, j ≤ 8 ∧ i = .int .i64 (j : Int) ∧ Rdg w wr xs j) (fun i _ => 8 - (intOf i).toNat)
  case atStart => exact ⟨0, by omega, rfl, HR0.out⟩
  case round =>
    clear HR0
    obtain ⟨j, hj, rfl, hR⟩ := hrel
    by_cases hlt : j < 8
    · have hjI : (j : Int) < 8 := by omega
      have hj0 : (0 : Int) ≤ (j : Int) := by omega
      have hB := bi_chk (h.kept hR.bel) rfl hlt
      have hde := decodeEntry_ok (some ⟨b, o + j * 16, none⟩) 16 (c - j * 16) (chk xs j) wr hB
      have hsub : (j + 1) * 16 - j * 16 = 16 := by omega
      have HR : Hid _ := hR
      have HS : Hid _ := hsub
      clear hR hB hsub
      by_cases hg : EGood (chk xs j)
      · have hde0 : deE 16 (chk xs j) = 0 := by unfold deE; rw [if_neg (by omega), if_pos hg]
        have hdv0 : deV 16 (chk xs j) = entV (entA xs j).n (entA xs j).s := by unfold deV; rw [if_pos hde0]; rfl
        rw [hde0, hdv0] at hde
        have hmy : EMay (entA xs j).n (entA xs j).s := egood_may hg
        have hnon := may_non hmy
        have hgood : ∀ i, i < j + 1 → EGood (chk xs i) := fun i hi => by
          by_cases e : i = j
          · rw [e]; exact hg
          · exact HR.out.good i (by omega)
        have HG : Hid _ := And.intro hmy (And.intro hnon hgood)
        clear hde0 hdv0 hmy hnon hgood hg
        by_cases h0 : (entA xs j).n = 0
        · have hset := pgJ_set xs hlt
          have hent : entA xs j = ent00 := by
            have h2 := HG.out.2.1 h0
            cases he : entA xs j with
            | mk n s => rw [he] at h0 h2; simp only at h0 h2; rw [h0, h2]; rfl
          have hcl : clB (ents xs (j + 1)) = false := by rw [ents_succ, clB_snoc, HR.out.cl, decide_eq_false (by simpa using h0)]; rfl
          rw [hent] at hde hset
          have HC : Hid _ := And.intro hcl hset
          clear h0 hcl hset hent
          go_wp2_with fail
          rw [HS.out]
          refine grew_at hde ?_
          intro w1 hb1
          clear hde
          have hb1A := grew_trans hb1 (grew_alloc w1 (entO 0 ⟨#[]⟩))
          have hR1 := HR.out.on hb1A
          have hpu := pput_empty hR1.pg (B := w.heap.size + 1) (Nat.le_refl _) j hlt
          have HR1 : Hid _ := hR1
          clear hb1 hb1A hR1
          dsimp only [ent00]
          go_wp2_with fail
          refine hpu.mono ?_
          rintro _ w2 ⟨rfl, hP2, hb2⟩
          clear hpu
          have hR2 : Rdg w w2 xs (j + 1) := by
            have e : ((pgJ xs j).set j ⟨0, ⟨#[]⟩⟩) = pgJ xs (j + 1) := HC.out.2
            rw [e] at hP2
            exact ⟨HG.out.2.2, HC.out.1, hP2, (hb2.block _ (by omega)).trans HR1.out.res, HR1.out.bel.trans (hb2.mono (by omega))⟩
          have HR2 : Hid _ := hR2
          clear hR2 hP2 hb2
          dsimp only
          go_wp2_with fail
          go_roundw
          case rel => exact ⟨j + 1, by omega, by go_num, HR2.out⟩
          case measure => simp [intOf]; omega
        · cases hhit : (ents xs j).any (hit (entA xs j).s) with
          | true =>
            have hmn : ¬ mayB 128 xs := fun hm => by
              have h1 := clB_mono xs (j + 1) (8 - (j + 1)) (by rw [show j + 1 + (8 - (j + 1)) = 8 by omega]; exact hm.2.2)
              rw [ents_succ, clB_snoc, hhit, decide_eq_true h0, Bool.true_and, Bool.or_true] at h1
              cases h1
            have HM : Hid _ := hmn
            obtain ⟨k, hk⟩ : ∃ k, (pgJ xs j).findIdx? (hit (entA xs j).s) = some k := by
              cases hf : (pgJ xs j).findIdx? (hit (entA xs j).s) with
              | some k => exact ⟨k, rfl⟩
              | none => rw [idx_any, pgJ_any, hhit] at hf; cases hf
            have HK : Hid _ := And.intro h0 hk
            clear hmn hk h0 hhit
            go_wp2_with fail
            rw [HS.out]
            refine grew_at hde ?_
            intro w1 hb1
            clear hde
            have hb1A := grew_trans hb1 (grew_alloc w1 (entO (entA xs j).n (entA xs j).s))
            have hR1 := HR.out.on hb1A
            have hpu := pput_there hR1.pg (j : Int) _ _ HG.out.1 HK.out.1 k HK.out.2
            have HR1 : Hid _ := hR1
            clear hb1 hb1A hR1
            dsimp only
            go_wp2_with fail
            refine grew_at hpu ?_
            intro w2 hb2
            clear hpu
            have hr2 := (HR1.out.on hb2).res
            have hbf := (HR1.out.on hb2).bel
            clear hb2
            dsimp only
            go_wp2_with (refine wpList_store_row rfl 53 _ _ rfl w.heap.size z16 rfl rfl 53 _ hr2 info53 rfl (flat2_all (List.replicate 8 ent00)) ?_)
            refine bodyPost_ret (v := .tuple #[.agg z16, .bool false]) (results_cell_tmp_row (p := 2) (u := 3) (ty := 53) Try.results29 _ _ w.heap.size 53 z16 (0, 0) _ rfl (setRow_heap _ _ _ _ _ _ hr2) Try.underlying53 rfl info53) rfl ?_
            exact ⟨by rw [(no_may HM.out).1, (no_may HM.out).2], below_setRow hbf (Nat.le_refl _) _⟩
          | false =>
            have hset := pgJ_set xs hlt
            have hcl : clB (ents xs (j + 1)) = false := by rw [ents_succ, clB_snoc, HR.out.cl, hhit, Bool.and_false]; rfl
            have hk : (pgJ xs j).findIdx? (hit (entA xs j).s) = none := by rw [idx_any, pgJ_any, hhit]
            have HC : Hid _ := And.intro hcl (And.intro hset (And.intro h0 hk))
            clear h0 hcl hset hk hhit
            go_wp2_with fail
            rw [HS.out]
            refine grew_at hde ?_
            intro w1 hb1
            clear hde
            have hb1A := grew_trans hb1 (grew_alloc w1 (entO (entA xs j).n (entA xs j).s))
            have hR1 := HR.out.on hb1A
            have hpu := pput_named hR1.pg (B := w.heap.size + 1) (Nat.le_refl _) j hlt _ _ HG.out.1 HC.out.2.2.1 HC.out.2.2.2
            have HR1 : Hid _ := hR1
            clear hb1 hb1A hR1
            dsimp only
            go_wp2_with fail
            refine hpu.mono ?_
            rintro _ w2 ⟨rfl, hP2, hb2⟩
            clear hpu
            have hR2 : Rdg w w2 xs (j + 1) := by
              have e : ((pgJ xs j).set j ⟨(entA xs j).n, (entA xs j).s⟩) = pgJ xs (j + 1) := HC.out.2.1
              rw [e] at hP2
              exact ⟨HG.out.2.2, HC.out.1, hP2, (hb2.block _ (by omega)).trans HR1.out.res, HR1.out.bel.trans (hb2.mono (by omega))⟩
            have HR2 : Hid _ := hR2
            clear hR2 hP2 hb2
            dsimp only
            go_wp2_with fail
            go_roundw
            case rel => exact ⟨j + 1, by omega, by go_num, HR2.out⟩
            case measure => simp [intOf]; omega
      · skip
        have hde0 : deE 16 (chk xs j) = 6 := by unfold deE; rw [if_neg (by omega), if_neg hg]
        have hdv0 : deV 16 (chk xs j) = entV 0 ent0 := by unfold deV; rw [hde0, if_neg (by omega)]
        rw [hde0, hdv0] at hde
        have hmn : ¬ mayB 128 xs := fun hm => hg (hm.2.1 j hlt)
        have HM : Hid _ := hmn
        clear hde0 hdv0 hmn hg
        go_wp2_with fail
        rw [HS.out]
        refine grew_at hde ?_
        intro w1 hb1
        clear hde
        have hR1 := HR.out.on (grew_trans hb1 (grew_alloc w1 (entO 0 ent0)))
        have hr2 := hR1.res
        have hbf := hR1.bel
        clear hb1 hR1
        dsimp only
        go_wp2_with (refine wpList_store_row rfl 53 _ _ rfl w.heap.size z16 rfl rfl 53 _ hr2 info53 rfl (flat2_all (List.replicate 8 ent00)) ?_)
        refine bodyPost_ret (v := .tuple #[.agg z16, .bool false]) (results_cell_tmp_row (p := 2) (u := 3) (ty := 53) Try.results29 _ _ w.heap.size 53 z16 (0, 0) _ rfl (setRow_heap _ _ _ _ _ _ hr2) Try.underlying53 rfl info53) rfl ?_
        exact ⟨by rw [(no_may HM.out).1, (no_may HM.out).2], below_setRow hbf (Nat.le_refl _) _⟩
    · skip
      obtain rfl : j = 8 := by omega
      have hm : mayB 128 xs := ⟨rfl, hR.good, hR.cl⟩
      have hpg := hR.pg.row
      rw [pgJ_eight] at hpg
      have hres := hR.res
      have hlen : (ents xs 8).length = 8 := ents_len xs 8
      have hd : dec8 128 xs = ents xs 8 := by unfold dec8; rw [if_pos hm]
      have HM : Hid _ := And.intro hm hd
      have HB : Hid _ := hR.bel
      clear hm hd hR
      generalize ents xs 8 = E8 at *
      have hsz := flat2_size E8 hlen
      have hone := flat2_all E8
      have hi53 : (Try.prog.info? 53).map (·.size) = some (flat2 E8).toArray.size := by rw [hsz]; exact info53
      obtain ⟨cs, hcs⟩ : ∃ cs, cs = (flat2 E8).toArray := ⟨_, rfl⟩
      rw [← hcs] at hpg hsz hone hi53
      have HCS : Hid _ := hcs.symm
      clear hcs
      go_wp2_with (first
        | (refine wpList_load_row rfl 53 _ rfl (w.heap.size + 1) rfl 53 _ (0, 0) _ hpg Try.underlying53 rfl hi53 ?_)
        | (refine wpList_store_row rfl 53 _ _ rfl w.heap.size cs rfl rfl 53 _ hres hi53 hsz.symm hone ?_))
      refine bodyPost_ret (v := .tuple #[.agg cs, .bool true]) (results_cell_tmp_row (p := 2) (u := 3) (ty := 53) Try.results29 _ _ w.heap.size 53 cs (0, 0) _ rfl (setRow_heap _ _ _ _ _ _ hres) Try.underlying53 rfl hi53) rfl ?_
      exact ⟨by rw [HM.out.2, decide_eq_true HM.out.1, HCS.out], below_setRow HB.out (Nat.le_refl _) _⟩

theorem read_ok (p : Option Addr) (n c : Nat) (xs : List Int) (w : World) (h : BI w p n xs) (hnc : n ≤ c) (hc2 : c ≤ 9223372036854775807) :
    Calls Try.prog 29 #[.slice p n c] w fun e w' => e = .returned (.tuple #[.agg (flat2 (dec8 n xs)).toArray, .bool (decide (mayB n xs))]) ∧ Below w.heap.size w w' := by
  by_cases hn : n = 128
  · subst hn
    exact read_in p c xs w h hnc hc2
  · have hm : ¬ mayB n xs := fun h => hn h.1
    have e1 : (flat2 (dec8 n xs)).toArray = z16 := by unfold dec8; rw [if_neg hm]; rfl
    rw [e1, decide_eq_false hm]
    exact read_no p n c w hn (by have := h.big; omega)
theorem dec8_len (n : Nat) (xs : List Int) : (dec8 n xs).length = 8 := by
  unfold dec8
  split
  · exact ents_len xs 8
  · simp
theorem dec8_may (n : Nat) (xs : List Int) : ∀ e ∈ dec8 n xs, EMay e.n e.s := fun e he => by
  unfold dec8 at he
  split at he
  · rename_i hm
    unfold ents at he
    obtain ⟨i, hi, rfl⟩ := List.mem_map.1 he
    exact egood_may (hm.2.1 i (List.mem_range.1 hi))
  · rw [List.eq_of_mem_replicate he]
    exact .inl ⟨rfl, rfl⟩
theorem dec8_non (n : Nat) (xs : List Int) : ∀ e ∈ dec8 n xs, e.n = 0 → e.s = ⟨#[]⟩ := fun e he => may_non (dec8_may n xs e he)
end Go.Proofs.Ythfnldclpommlab
