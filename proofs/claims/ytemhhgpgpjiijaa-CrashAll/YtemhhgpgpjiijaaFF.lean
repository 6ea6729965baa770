/- CrashAll: the walk. -/
import Derived.Test.YtemhhgpgpjiijaaFE
namespace Go.Proofs.Ytemhhgpgpjiijaa
open Go.RowKit Go.Maps
set_option linter.unusedVariables false

theorem imgL_part {L : List (List Int)} {m : Nat} (h : L.length = m) : imgL (part L m) m = L := by
  apply List.ext_getElem
  · simp [imgL, h]
  · intro i h1 h2
    have hi : i < m := by simpa [imgL] using h1
    simp only [imgL, List.getElem_map, List.getElem_range, part, if_pos hi]
    rw [List.getD_eq_getElem?_getD, List.getElem?_eq_getElem h2]; rfl

theorem foot_kept {B : Nat} {w w' : World} {a mb fb : Nat} {qv : Value} {S : St} (hd : DI B w a mb fb qv S) (hf : Frame (foot a mb fb qv) w w') {B' e s n : Nat} {v : Value} {Lx : List Value} (ho : w.ownsRow B' e s v n Lx) (h1 : e ≠ 67) (h2 : e ≠ 71) : w'.ownsRow B' e s v n Lx :=
  ownsRow_kept ho (fun k hk => hf.block k (ho.lt k hk).2 (fun hx => by
    obtain ⟨cs', hc⟩ := own_ty ho hk
    exact hd.notin hc h1 h2 hx))

theorem Als.frame {B : Nat} {w w' : World} {a mb fb : Nat} {qv : Value} {S : St} (hd : DI B w a mb fb qv S) (hf : Frame (foot a mb fb qv) w w') {B' g cv M N : Nat} {F : Nat → Nat → List Int} (h : Als B' w g cv M N F) : Als B' w' g cv M N F := by
  obtain ⟨vs, hr, he⟩ := h.ex
  refine ⟨⟨vs, foot_kept hd hf hr (by decide) (by decide), fun k hk => ?_⟩, h.byt, h.n2⟩
  obtain ⟨gk, gs, h1, h2⟩ := he k hk
  exact ⟨gk, gs, h1, ⟨foot_kept hd hf h2.row (by decide) (by decide), fun i hi => foot_kept hd hf (h2.el i hi) (by decide) (by decide)⟩⟩

theorem Sents.frame {B : Nat} {w w' : World} {a mb fb : Nat} {qv : Value} {S : St} (hd : DI B w a mb fb qv S) (hf : Frame (foot a mb fb qv) w w') {B' g : Nat} {gs : List Nat} {q : List Wr} (h : Sents B' w g gs q) : Sents B' w' g gs q :=
  ⟨foot_kept hd hf h.row (by decide) (by decide), h.len, fun i x hx => foot_kept hd hf (h.el i x hx) (by decide) (by decide)⟩

/-- The copy behind j writes that were done. -/
structure Cp (S S' : St) (j : Nat) : Prop where
  q : S'.q = S.q.drop j
  n : S'.N = S.N
  f : S'.f = runs S.f (S.q.take j)

theorem cp_step {S S' : St} {j : Nat} (h : Cp S S' j) {x : Wr} (hx : S.q[j]? = some x) : (aDone S' x.id true).1 = 0 ∧ Cp S (aDone S' x.id true).2 (j + 1) := by
  obtain ⟨h1, h2⟩ := find_zero hx
  have e : aDone S' x.id true = (0, S'.done 0 x true) := by
    unfold aDone
    rw [h.q, h1]
    simp only
    rw [h2]
    simp only [if_true]
  rw [e]
  refine ⟨rfl, ⟨?_, h.n, ?_⟩⟩
  · show S'.q.eraseIdx 0 = _
    rw [h.q, List.eraseIdx_zero, List.tail_drop]
  · show (if true = true then upd S'.f x.block x.bytes else S'.f) = _
    rw [if_pos rfl, h.f, take_snoc hx]
    unfold runs
    rw [List.foldl_append]
    rfl

theorem mst_small {n : Nat} (h : n ≤ 5) : mst 4096 n = 2 ^ n := by
  have h1 : 2 ^ n ≤ 2 ^ 5 := Nat.pow_le_pow_right (by omega) h
  have h2 : (2 : Nat) ^ 5 = 32 := by decide
  unfold mst al
  rw [Nat.min_eq_left (by omega)]
  generalize 2 ^ n = P at h1
  omega

theorem small_pow {n : Nat} (h : n ≤ 5) : 1 ≤ 2 ^ n ∧ 2 ^ n ≤ 32 := by
  have h1 : 2 ^ n ≤ 2 ^ 5 := Nat.pow_le_pow_right (by omega) h
  have h2 : (2 : Nat) ^ 5 = 32 := by decide
  exact ⟨Nat.one_le_two_pow, by omega⟩

theorem wrap_pow {n : Nat} (h : n ≤ 5) : wrap64 (2 ^ n) = ((2 ^ n : Nat) : Int) := by
  have h1 := small_pow h
  have e : ((2 : Int) ^ n) = ((2 ^ n : Nat) : Int) := by simp
  rw [e]
  generalize 2 ^ n = P at h1
  unfold wrap64
  omega

theorem cr_byt {S : St} (hs : ∀ i, Sect (S.f i)) (hq : ∀ x ∈ S.q, Sect x.bytes) : ∀ (xs : List Int) (f : Nat → List Int), (∀ i, Sect (f i)) → ∀ i, Sect (xs.foldl (crash1 S.q) f i)
  | [], f, hf, i => hf i
  | x :: xs, f, hf, i => by
    refine cr_byt hs hq xs _ (fun j => ?_) i
    unfold crash1
    cases hy : S.q.find? (fun y => y.id == x) with
    | some y =>
      simp only
      unfold upd
      split
      · exact hq y (List.mem_of_find?_eq_some hy)
      · exact hf j
    | none => exact hf j

set_option maxRecDepth 10000 in
set_option maxHeartbeats 8000000 in
theorem all_walk (ip : Option Addr) (m ic : Nat) (L : List (List Int)) (p : Option Addr) (n c : Nat) (D : List (Int × List Int)) (K0 : Nat) (w : World) (hI : IB w ip m L) (h24 : m * 24 ≤ 140737488355328) (h : DoBs w p n D) (hc : n ≤ c) (hcm : c ≤ 9223372036854775807) (hK : K0 < 18446744073709551616) :
    Calls Try.prog 3 #[.slice ip m ic, .slice p n c, .int .u64 (K0 : Int)] w fun e w' => e = .returned (.bool true) ∧ Below w.heap.size w w' := by
  have hbig := h.big
  obtain ⟨n6, hn6, hn6a, hn6b⟩ : ∃ n6 : Nat, n6 = min n 5 ∧ n6 ≤ n ∧ n6 ≤ 5 := ⟨_, rfl, by omega, by omega⟩
  have hcc : (n6 : Int) ≤ (c : Int) := by omega
  have H6 := (show Hid _ from hn6)
  clear hn6
  have CB := (show Hid _ from both_ok ip m ic L p n6 c _ w hI h24 (h.take n6 hn6a))
  have HK := (show Hid _ from hK)
  clear h hK
  go_enter Try.func3, Try.ntmps3
  have hcase : n6 = 5 ∧ (5 : Int) < (n : Int) ∨ n6 = n ∧ (n : Int) ≤ 5 := by have := H6.out; omega
  rcases hcase with ⟨rfl, hle⟩ | ⟨rfl, hle⟩
  all_goals
    clear H6
    go_wp2_with fail
    refine Calls.mono CB.out ?_
    clear CB
    rintro e w1 ⟨hb1, rfl | ⟨hgood, a, mb, fb, qv, x, S, rfl, hd, hbt, hq⟩⟩
    · go_wp2
      go_ret
      exact ⟨rfl, hb1⟩
    · have hq5 : S.q.length ≤ 5 := by omega
      have hap := ids_apart hbt
      have hm2048 := hd.N2
      rw [hbt.n] at hm2048
      obtain ⟨nq, hnq⟩ : ∃ nq, S.q.length = nq := ⟨_, rfl⟩
      have hpw := small_pow hq5
      have hwp := wrap_pow hq5
      have hms := mst_small hq5
      have HLm : Hid (imgL S.f m = L) := (by rw [hbt.f]; exact imgL_part hI.len)
      have HBT := (show Hid _ from hbt)
      have HAP := (show Hid _ from hap)
      rw [hnq] at hq5 hpw hwp hms
      obtain ⟨M, hM⟩ : ∃ M, 2 ^ nq = M := ⟨_, rfl⟩
      rw [hM] at hpw hwp hms
      have HM := (show Hid _ from hM)
      have HNQ := (show Hid _ from hnq)
      clear hgood hbt hap hM hq
      have CQ := (show Hid _ from queue_ok hd)
      rw [hnq] at CQ
      go_wp2_with fail
      refine Calls.mono CQ.out ?_
      clear CQ
      rintro e w2 ⟨g2, gs2, rfl, hs2, hb2⟩
      have hd2 := hd.later hb2
      have CI := (show Hid _ from images_ok hd2 4096 HAP.out)
      rw [hnq, hms] at CI
      clear hs2 hd
      go_wp2_with fail
      refine Calls.mono CI.out ?_
      clear CI
      rintro e w3 ⟨v, vs, rfl, ho, hel, hb3⟩
      obtain ⟨pv, cv, rfl, hpg⟩ := row_case ho
      obtain ⟨g, rfl⟩ := hpg (by omega)
      have hd3 := hd2.later hb3
      have hcv := row_cap ho
      have hA : Als w2.heap.size w3 g cv M S.N (fun k => (S.cr (sb (S.q.map Wr.id) k nq)).f) := ⟨⟨vs, ho, hel⟩, fun k i => (cr_byt (S := S) (fun i => hd3.secs.all i) (fun y hy => (hd3.qok y hy).2.1) _ S.f (fun i => hd3.secs.all i) i).2, hd3.N2⟩
      have hbw3 := (hb1.trans (hb2.mono hb1.size)).trans (hb3.mono (Nat.le_trans hb1.size hb2.size))
      obtain ⟨g0, hc0, hib0⟩ := hA.at (show 0 < M by omega)
      have e0 : imgL ((fun k => (S.cr (sb (S.q.map Wr.id) k nq)).f) 0) S.N = L := by
        have : sb (S.q.map Wr.id) 0 nq = [] := by
          have := sb_congr (S.q.map Wr.id) (K := 0) (K' := 0) nq (fun _ _ => rfl)
          clear this
          generalize S.q.map Wr.id = ns
          clear hq5 hpw hwp hms HM HNQ hnq hA hel ho hcv hib0 hc0
          induction nq with
          | zero => rfl
          | succ j ih => rw [sb, ih, if_neg (by simp)]; rfl
        simp only [this]
        rw [HBT.out.n]
        exact HLm.out
      rw [e0, HBT.out.n] at hib0
      rw [HBT.out.n] at hc0
      have CS := (show Hid _ from sameImage_ok (some ⟨g0, 0, none⟩) ip m m m ic L L w3 hib0 (hI.kept hbw3))
      rw [show (L == L) = true by simp] at CS
      have hne : ((M : Int) != (M : Int)) = false := by simp
      have HA := (show Hid _ from hA)
      have HD := (show Hid _ from hd3)
      clear ho hel hib0 e0 hd2 hd3 hA
      go_wp2_with fail
      refine same_at CS.out ?_
      have CC := (show Hid _ from copy_ok HD.out)
      clear CS hc0 hne
      go_wp2_with fail
      refine Calls.mono CC.out ?_
      clear CC
      rintro e w4 ⟨a4, mb4, fb4, qv4, rfl, hd4, hb4⟩
      obtain ⟨w5, hw5⟩ : ∃ w5, w4.alloc (.cells #[.pointer (some ⟨a4, 0, none⟩)] 25) = w5 := ⟨_, rfl⟩
      have hb5 : Below w4.heap.size w4 w5 := by rw [← hw5]; exact (Below.refl _ _).alloc (Nat.le_refl _) _
      have hT : w5.heap[w4.heap.size]? = some (.cells #[.pointer (some ⟨a4, 0, none⟩)] 25 (0, 0)) := by rw [← hw5]; exact at_new rfl
      obtain ⟨T, hT0⟩ : ∃ T, w4.heap.size = T := ⟨_, rfl⟩
      go_wp2_with fail
      have hb5o := hb5
      rw [hT0] at hb5 hT
      have hbT : T < w5.heap.size := (Array.getElem?_eq_some_iff.1 hT).1
      have t0 : w5.drew.cell? ⟨T, 0, none⟩ = some (.pointer (some ⟨a4, 0, none⟩)) := by rw [cell_of_row w5.drew _ 0 _ _ _ hT]; rfl
      have hb35 : Below w3.heap.size w3 w5.drew := hb4.trans (hb5.drew.mono (by have := hb4.size; omega))
      have hdD := HD.out.later hb35
      have hd5 : DI w3.heap.size w5.drew a4 mb4 fb4 qv4 S := hd4.later hb5o.drew
      have hfT : ∀ k, foot a4 mb4 fb4 qv4 k → k < T := fun k hk => by rw [← hT0]; exact (hd4.in k hk).2
      have CO := (show Hid _ from cof_ok hdD K0 HK.out)
      have HA5 := (show Hid _ from HA.out.later hb35)
      refine wp_region_noPanic ?_
      refine wp_region_held_drew (S := fun w' => w'.cell? ⟨T, 0, none⟩ = some (.pointer (some ⟨a4, 0, none⟩))) (by kernel_rfl) t0 (fun hHeld => ?_)
      refine wpAnyH_take (i := 0) (oi := { dst := some 54, op := Op.load 25 (Operand.tmp 12), type := 25, pos := "law.go:80", after := #[], guard := none }) (v := ?_) rfl (by kernel_rfl) (by kernel_rfl) (by kernel_rfl) (fun _ _ _ h => h) (Or.inl ⟨by rfl, ?_⟩) (by assumption) ?_
      rotate_left
      · (intro w hSw; (try dsimp only at hSw); go_simp; try (with_reducible rfl))
      simp only [Act.put, List.setIfInBounds_toArray, List.set_cons_zero, List.set_cons_succ]
      refine wpAnyH_take (i := 1) (oi := { dst := some 55, op := Op.move (Operand.tmp 7), type := 25, pos := "law.go:80", after := #[], guard := none }) (v := ?_) rfl (by kernel_rfl) (by kernel_rfl) (by kernel_rfl) (fun _ _ _ h => h) (Or.inl ⟨by rfl, ?_⟩) (by assumption) ?_
      rotate_left
      · (intro w hSw; (try dsimp only at hSw); go_simp; try (with_reducible rfl))
      simp only [Act.put, List.setIfInBounds_toArray, List.set_cons_zero, List.set_cons_succ]
      refine wpAnyH_take (i := 2) (oi := { dst := some 56, op := Op.move (Operand.tmp 2), type := 24, pos := "law.go:80", after := #[], guard := none }) (v := ?_) rfl (by kernel_rfl) (by kernel_rfl) (by kernel_rfl) (fun _ _ _ h => h) (Or.inl ⟨by rfl, ?_⟩) (by assumption) ?_
      rotate_left
      · (intro w hSw; (try dsimp only at hSw); go_simp; try (with_reducible rfl))
      simp only [Act.put, List.setIfInBounds_toArray, List.set_cons_zero, List.set_cons_succ]
      refine wpAnyH_ready (rs := [3]) (by kernel_rfl) (by simp) ?_
      refine AllReadyH.cons (o := { dst := some 57, op := Op.call { callee := Callee.value (Operand.func 11), args := #[Operand.tmp 55, Operand.tmp 56], argTypes := #[25, 24] }, type := 37, pos := "law.go:80", after := #[{ on := 1, ground := Ground.data }, { on := 2, ground := Ground.data }], guard := none }) rfl (fun K hK => ?_) AllReadyH.nil
      rw [if_pos (by rfl)]
      go_simp
      refine Calls.mono CO.out ?_
      clear CO
      rintro e w6 ⟨v6, rfl, ho6, hb6⟩
      obtain ⟨xs, hxs⟩ : ∃ xs, sb (S.q.map Wr.id) K0 S.q.length = xs := ⟨_, rfl⟩
      rw [hxs] at ho6
      have hxl : xs.length ≤ 5 := by rw [← hxs]; have := sb_len (S.q.map Wr.id) K0 S.q.length; have := HNQ.out; omega
      have hxm : ∀ y ∈ xs, y ∈ S.q.map Wr.id := by rw [← hxs]; exact sb_mem _ K0 _ (by simp)
      have HXS := (show Hid _ from hxs)
      obtain ⟨p6, c6, rfl, hi6, hlo6⟩ := ids_ii ho6 (by omega) (fun y hy => ids_rng hdD y (hxm y hy))
      have t1 := (hb6.cell (p := ⟨T, 0, none⟩) (lt_of_cell t0)).trans t0
      have hd6 := hd5.later hb6
      have HA6 := (show Hid _ from HA5.out.later hb6)
      have CK := (show Hid _ from crash_ok hd6 p6 xs.length c6 xs hi6 (fun k hk b o e h0 => by have := hlo6 b o e; have := hfT k hk; have e2 : w5.drew.heap.size = w5.heap.size := rfl; omega) (fun id hid => found_of (hxm id hid)))
      dsimp only
      refine hK.out _ _ t1 (fun hHeld => ?_)
      clear hK K hxs ho6 hi6
      try simp only [Act.put, List.setIfInBounds_toArray, List.set_cons_zero, List.set_cons_succ]
      refine wpAnyH_ready (rs := [4]) (by kernel_rfl) (by simp) ?_
      refine AllReadyH.cons (o := { dst := some 58, op := Op.call { callee := Callee.value (Operand.func 10), args := #[Operand.tmp 54, Operand.tmp 57], argTypes := #[25, 37] }, type := 35, pos := "law.go:80", after := #[{ on := 0, ground := Ground.data }, { on := 3, ground := Ground.data }, { on := 3, ground := Ground.chain }], guard := none }) rfl (fun K hK => ?_) AllReadyH.nil
      rw [if_pos (by rfl)]
      go_simp
      refine Calls.mono CK.out ?_
      clear CK
      rintro e w7 ⟨rfl, hd7, hf7⟩
      have hT6 : w6.heap[T]? = some (.cells #[.pointer (some ⟨a4, 0, none⟩)] 25 (0, 0)) := (hb6.block T hbT).trans hT
      have hT7 : w7.heap[T]? = some (.cells #[.pointer (some ⟨a4, 0, none⟩)] 25 (0, 0)) := (hf7.block T (Array.getElem?_eq_some_iff.1 hT6).1 (hd6.notin hT6 (by decide) (by decide))).trans hT6
      have t7 : w7.cell? ⟨T, 0, none⟩ = some (.pointer (some ⟨a4, 0, none⟩)) := by rw [cell_of_row w7 _ 0 _ _ _ hT7]; rfl
      dsimp only
      refine hK.out _ _ t7 (fun hHeld => ?_)
      clear hK K
      try simp only [Act.put, List.setIfInBounds_toArray, List.set_cons_zero, List.set_cons_succ]
      refine wpAnyH_take (i := 5) (oi := { dst := some 59, op := Op.binOp BinOp.neq 35 (Operand.tmp 58) (Operand.const (Value.int IntKind.i64 0)) 35, type := 4, pos := "law.go:80", after := #[{ on := 4, ground := Ground.data }], guard := none }) (v := .bool false) rfl (by kernel_rfl) (by kernel_rfl) (by kernel_rfl) (fun _ _ _ h => h) (Or.inl ⟨by rfl, ?_⟩) (by assumption) ?_
      · (intro w hSw; (try dsimp only at hSw); go_simp)
      simp only [Act.put, List.setIfInBounds_toArray, List.set_cons_zero, List.set_cons_succ]
      refine wpAnyH_done (by kernel_rfl) ?_ _
      refine NoPanic.normal ?_
      have HA7 := (show Hid _ from HA6.out.frame hd6 hf7)
      have hdD7 : DI w.heap.size w7 a mb fb qv S := (hdD.later hb6).kept (fun k hk => hf7.block k ((hdD.later hb6).in k hk).2 (fun hx => by have := (hd4.in k hx).1; have := (HD.out.in k hk).2; omega))
      have hb37 : Below w3.heap.size w3 w7 := (hb35.trans (hb6.mono hb35.size)).trans (hf7.below (Nat.le_trans hb35.size hb6.size) (fun k hk => (hd6.in k hk).1))
      have hbw7 := hbw3.trans (hb37.mono hbw3.size)
      have HD7 := (show Hid _ from hdD7)
      have HDC := (show Hid _ from hd7)
      clear hb5o hd7 hdD7 hf7 hT6 hT7 hd6 hb6 t0 t1 hdD hd5 hHeld hb35 hb37 hw5 hT hd4 hb4 hb5
      clear hHeld hbT hfT hlo6 hxl hm2048 h24 hbig hcc hle hn6a hn6b hc hcm HA HA5 HA6 HD
      have hmf : ∀ (fn : Fn) (first cap : Array Value) (w : World), (Instr.makeFunc fn first cap).run Try.prog w = .ok (.func fn first cap) w := fun _ _ _ _ => rfl
      have CF := (show Hid _ from containsFn_ok HDC.out T t7 HA7.out (by omega) ⟨K0 % 2 ^ nq, by rw [HM.out]; exact Nat.mod_lt _ (by omega), by
        have e : (S.cr (sb (S.q.map Wr.id) (K0 % 2 ^ nq) nq)).f = xs.foldl (crash1 S.q) S.f := by
          rw [← sb_mod, ← HXS.out, HNQ.out]; rfl
        rw [e]; simp⟩)
      clear HDC t7 HXS hxm
      go_wp2_with fail
      refine Calls.mono CF.out ?_
      clear CF hmf
      rintro e w8 ⟨rfl, hb8⟩
      have hd8 := HD7.out.later hb8
      have hA8 := HA7.out.later hb8
      have hbw8 := hbw7.trans (hb8.mono hbw7.size)
      have CC := (show Hid _ from copy_ok hd8)
      clear HD7 HA7 hbw7 hb8
      go_wp2_with fail
      refine Calls.mono CC.out ?_
      clear CC
      rintro e w9 ⟨a9, mb9, fb9, qv9, rfl, hd9, hb9⟩
      have hdD9 := hd8.later hb9
      have hA9 := hA8.later hb9
      have hbw9 := hbw8.trans (hb9.mono hbw8.size)
      have CQ := (show Hid _ from queue_ok hdD9)
      rw [HNQ.out] at CQ
      clear hd8 hA8
      go_wp2_with fail
      refine Calls.mono CQ.out ?_
      clear CQ
      rintro e w10 ⟨g10, gs10, rfl, hs10, hb10⟩
      have hd10 := hd9.later hb10
      have hA10 := hA9.later hb10
      have hbw10 := hbw9.trans (hb10.mono hbw9.size)
      have HIDS := (show Hid _ from HBT.out.ids)
      clear hdD9 hd9 hA9 hbw9 hb9 hb10
      go_wp2_with fail
      try simp only [hwp]
      clear hwp hms hnq
      go_loopw [69] (fun i wr => ∃ (j : Nat) (qv' : Value) (S' : St), j ≤ nq ∧ i = .int .i64 (j : Int) ∧ DI w8.heap.size wr a9 mb9 fb9 qv' S' ∧ Cp S S' j ∧ Sents w9.heap.size wr g10 gs10 S.q ∧ Als w2.heap.size wr g cv M S.N (fun k => (S.cr (sb (S.q.map Wr.id) k nq)).f) ∧ Below w.heap.size w wr) (fun i _ => nq - (intOf i).toNat)
      case atStart => exact ⟨0, _, _, by omega, rfl, hd10, ⟨rfl, rfl, rfl⟩, hs10, hA10, hbw10⟩
      case round =>
        clear hd10 hs10 hA10 hbw10
        obtain ⟨j, qv', S', hj, rfl, hdj, hcp, hsj, hAj, hb⟩ := hrel
        by_cases hlt : j < nq
        · obtain ⟨y, hy⟩ : ∃ y, S.q[j]? = some y := ⟨S.q[j]'(by have := HNQ.out; omega), List.getElem?_eq_getElem (by have := HNQ.out; omega)⟩
          obtain ⟨c0, c1, c2⟩ := hsj.at hy
          have hjI : (j : Int) < (nq : Int) := by omega
          unfold sl at c2
          obtain ⟨hst1, hst2⟩ := cp_step hcp hy
          obtain ⟨x0, hx0⟩ : ∃ x0, y.id = x0 := ⟨_, rfl⟩
          obtain ⟨x1, hx1⟩ : ∃ x1, (y.block : Int) = x1 := ⟨_, rfl⟩
          obtain ⟨x2, hx2⟩ : ∃ x2, gs10.getD j 0 = x2 := ⟨_, rfl⟩
          rw [hx0] at c0 hst1 hst2
          rw [hx1] at c1
          rw [hx2] at c2
          clear hx0 hx1 hx2 hy hcp
          obtain ⟨W1, hW1⟩ : ∃ W1, wr.alloc (.cells #[.int .i64 x0, .int .i64 x1, .slice (some ⟨x2, 0, none⟩) 128 128] 44) = W1 := ⟨_, rfl⟩
          have hbw1 : Below wr.heap.size wr W1 := by rw [← hW1]; exact (Below.refl wr.heap.size wr).alloc (Nat.le_refl _) _
          have hcW : W1.cell? ⟨wr.heap.size, 0, none⟩ = some (.int .i64 x0) := by rw [← hW1, cell_of_row _ _ 0 _ _ _ (at_new rfl)]; rfl
          have hd1 := hdj.later hbw1
          have CD := (show Hid _ from dDone hd1 x0 true)
          rw [hst1] at CD
          have HST := (show Hid _ from hst2)
          have HD1 := (show Hid _ from hd1)
          have HS1 : Hid (Sents w9.heap.size W1 g10 gs10 S.q) := hsj.kept (fun k _ hk => hbw1.block k hk)
          have HA1 := (show Hid _ from hAj.later hbw1)
          have HB1 := (show Hid _ from hb.trans (hbw1.mono hb.size))
          clear hst1 hst2 hd1 hdj hsj hAj hb
          go_wp2_with fail
          refine Calls.mono CD.out ?_
          clear CD
          rintro e W2 ⟨dq', rfl, hd2, hf2, _⟩
          have hb2' : Below w.heap.size w W2 := HB1.out.trans (hf2.below HB1.out.size (fun k hk => Nat.le_trans hbw8.size (HD1.out.in k hk).1))
          have hs2' := HS1.out.frame HD1.out hf2
          have hA2' := HA1.out.frame HD1.out hf2
          clear hW1 hbw1 hcW c0 c1 c2 hf2
          go_wp2
          go_roundw
          case rel => exact ⟨j + 1, _, _, by omega, by go_num, hd2, HST.out, hs2', hA2', hb2'⟩
          case measure => simp [intOf]; omega
        · obtain rfl : j = nq := by omega
          go_wp2_with fail
          obtain ⟨M1, rfl⟩ : ∃ M1, M = M1 + 1 := ⟨M - 1, by omega⟩
          obtain ⟨gk, hck, hibk⟩ := hAj.at (show M1 < M1 + 1 by omega)
          have hn1 := hcp.n
          have hN2 := hdj.N2
          have HBY : Hid (∀ i, Num.Byt (S'.f i)) := fun i => (hdj.secs.all i).2
          have heq : imgL (S.cr (sb (S.q.map Wr.id) M1 j)).f S.N = imgL S'.f S.N := by
            have hm1 : M1 = 2 ^ j - 1 := by have := HM.out; omega
            have e1 : sb (S.q.map Wr.id) M1 j = S.q.map Wr.id := by
              rw [hm1, sb_full _ j (by have := HNQ.out; simp; omega) j (Nat.le_refl _), List.take_of_length_le (by have := HNQ.out; simp; omega)]
            have e2 : S'.f = runs S.f S.q := by rw [hcp.f, List.take_of_length_le (by have := HNQ.out; omega)]
            have e3 : (S.cr (S.q.map Wr.id)).f = runs S.f S.q := crash_part HIDS.out S.q S.f (fun x hx => hx)
            rw [e1, e2, e3]
          have HEQ := (show Hid _ from heq)
          clear heq
          have hckD : wr.drew.cell? ⟨g, M1, none⟩ = some (.slice (some ⟨gk, 0, none⟩) S.N S.N) := hck
          have hlD : Below wr.heap.size wr wr.drew := ⟨rfl, rfl, rfl, Nat.le_refl _, fun _ _ => rfl⟩
          have CI := (show Hid _ from image_ok (hdj.later hlD))
          rw [hn1] at CI
          have hibD := hibk.kept hlD
          have hsub : ((M1 + 1 : Nat) : Int) - 1 = (M1 : Int) := by omega
          have hsw : IntKind.i64.wrap (M1 : Int) = (M1 : Int) := by rw [IntKind.wrap_i64]; omega
          have hM0 : (0 : Int) ≤ (M1 : Int) := by omega
          have hM1 : (M1 : Int) < ((M1 + 1 : Nat) : Int) := by omega
          rw [hn1] at hN2
          clear hdj hcp hsj hAj hibk hck hj hlt hHeld hb1 hb2 hb3 hbw3 hbw8
          refine wp_region_noPanic ?_
          refine wp_region_held_drew (S := fun w' => w'.cell? ⟨g, M1, none⟩ = some (.slice (some ⟨gk, 0, none⟩) S.N S.N)) (by kernel_rfl) hckD (fun hHeld => ?_)
          refine wpAnyH_take (i := 0) (oi := { dst := some 78, op := Op.move (Operand.tmp 11), type := 31, pos := "law.go:90", after := #[], guard := none }) (v := ?_) rfl (by kernel_rfl) (by kernel_rfl) (by kernel_rfl) (fun _ _ _ h => h) (Or.inl ⟨by rfl, ?_⟩) (by assumption) ?_
          rotate_left
          · (intro w hSw; (try dsimp only at hSw); go_simp; try (with_reducible rfl))
          simp only [Act.put, List.setIfInBounds_toArray, List.set_cons_zero, List.set_cons_succ]
          refine wpAnyH_take (i := 1) (oi := { dst := some 79, op := Op.move (Operand.tmp 11), type := 31, pos := "law.go:90", after := #[], guard := none }) (v := ?_) rfl (by kernel_rfl) (by kernel_rfl) (by kernel_rfl) (fun _ _ _ h => h) (Or.inl ⟨by rfl, ?_⟩) (by assumption) ?_
          rotate_left
          · (intro w hSw; (try dsimp only at hSw); go_simp; try (with_reducible rfl))
          simp only [Act.put, List.setIfInBounds_toArray, List.set_cons_zero, List.set_cons_succ]
          refine wpAnyH_take (i := 2) (oi := { dst := some 80, op := Op.call { callee := Callee.builtin Builtin.len, args := #[Operand.tmp 79], argTypes := #[31] }, type := 3, pos := "law.go:90", after := #[{ on := 1, ground := Ground.data }], guard := none }) (v := ?_) rfl (by kernel_rfl) (by kernel_rfl) (by kernel_rfl) (fun _ _ _ h => h) (Or.inl ⟨by rfl, ?_⟩) (by assumption) ?_
          rotate_left
          · (intro w hSw; (try dsimp only at hSw); go_simp; try (with_reducible rfl))
          simp only [Act.put, List.setIfInBounds_toArray, List.set_cons_zero, List.set_cons_succ]
          refine wpAnyH_take (i := 3) (oi := { dst := some 81, op := Op.binOp BinOp.sub 3 (Operand.tmp 80) (Operand.const (Value.int IntKind.i64 1)) 3, type := 3, pos := "law.go:90", after := #[{ on := 2, ground := Ground.data }], guard := none }) (v := .int .i64 (M1 : Int)) rfl (by kernel_rfl) (by kernel_rfl) (by kernel_rfl) (fun _ _ _ h => h) (Or.inl ⟨by rfl, ?_⟩) (by assumption) ?_
          · (intro w hSw; (try dsimp only at hSw); go_simp; try omega)
          simp only [Act.put, List.setIfInBounds_toArray, List.set_cons_zero, List.set_cons_succ]
          refine wpAnyH_take (i := 4) (oi := { dst := some 82, op := Op.indexAddr 31 (Operand.tmp 78) (Operand.tmp 81), type := 0, pos := "law.go:90", after := #[{ on := 0, ground := Ground.data }, { on := 3, ground := Ground.data }], guard := none }) (v := .pointer (some ⟨g, M1, none⟩)) rfl (by kernel_rfl) (by kernel_rfl) (by kernel_rfl) (fun _ _ _ h => h) (Or.inl ⟨by rfl, ?_⟩) (by assumption) ?_
          · (intro w hSw; (try dsimp only at hSw); go_simp; try (intro hh; exfalso; omega))
          simp only [Act.put, List.setIfInBounds_toArray, List.set_cons_zero, List.set_cons_succ]
          refine wpAnyH_take (i := 5) (oi := { dst := some 83, op := Op.load 22 (Operand.tmp 82), type := 22, pos := "law.go:90", after := #[{ on := 4, ground := Ground.data }], guard := none }) (v := .slice (some ⟨gk, 0, none⟩) S.N S.N) rfl (by kernel_rfl) (by kernel_rfl) (by kernel_rfl) (fun _ _ _ h => h) (Or.inl ⟨by rfl, ?_⟩) (by assumption) ?_
          · (intro w hSw; (try dsimp only at hSw); go_simp)
          simp only [Act.put, List.setIfInBounds_toArray, List.set_cons_zero, List.set_cons_succ]
          refine wpAnyH_take (i := 6) (oi := { dst := some 84, op := Op.move (Operand.tmp 13), type := 25, pos := "law.go:90", after := #[], guard := none }) (v := ?_) rfl (by kernel_rfl) (by kernel_rfl) (by kernel_rfl) (fun _ _ _ h => h) (Or.inl ⟨by rfl, ?_⟩) (by assumption) ?_
          rotate_left
          · (intro w hSw; (try dsimp only at hSw); go_simp; try (with_reducible rfl))
          simp only [Act.put, List.setIfInBounds_toArray, List.set_cons_zero, List.set_cons_succ]
          refine wpAnyH_ready (rs := [7]) (by kernel_rfl) (by simp) ?_
          refine AllReadyH.cons (o := { dst := some 85, op := Op.call { callee := Callee.value (Operand.func 14), args := #[Operand.tmp 84], argTypes := #[25] }, type := 22, pos := "law.go:90", after := #[{ on := 6, ground := Ground.data }], guard := none }) rfl (fun K hK => ?_) AllReadyH.nil
          rw [if_pos (by rfl)]
          go_simp
          refine Calls.mono CI.out ?_
          clear CI
          rintro e w11 ⟨g11, gs11, rfl, him, hb11⟩
          have t1 := (hb11.cell (p := ⟨g, M1, none⟩) (lt_of_cell hckD)).trans hckD
          have CS := (show Hid _ from sameImage_ok (some ⟨gk, 0, none⟩) (some ⟨g11, 0, none⟩) S.N S.N S.N S.N _ _ w11 (hibD.kept hb11) (him.ib hN2 (fun i _ => HBY.out i)))
          rw [HEQ.out, show (imgL S'.f S.N == imgL S'.f S.N) = true by simp] at CS
          dsimp only
          refine hK.out _ _ t1 (fun hHeld => ?_)
          clear hK K him
          try simp only [Act.put, List.setIfInBounds_toArray, List.set_cons_zero, List.set_cons_succ]
          refine wpAnyH_ready (rs := [8]) (by kernel_rfl) (by simp) ?_
          refine AllReadyH.cons (o := { dst := some 86, op := Op.call { callee := Callee.value (Operand.func 8), args := #[Operand.tmp 83, Operand.tmp 85], argTypes := #[22, 22] }, type := 4, pos := "law.go:90", after := #[{ on := 5, ground := Ground.data }, { on := 7, ground := Ground.data }, { on := 7, ground := Ground.chain }], guard := none }) rfl (fun K hK => ?_) AllReadyH.nil
          rw [if_pos (by rfl)]
          go_simp
          refine same_at CS.out ?_
          clear CS
          dsimp only
          refine hK.out _ _ t1 (fun hHeld => ?_)
          clear hK K
          try simp only [Act.put, List.setIfInBounds_toArray, List.set_cons_zero, List.set_cons_succ]
          refine wpAnyH_take (i := 9) (oi := { dst := some 6, op := Op.assign (Operand.tmp 86), type := 4, pos := "law.go:90", after := #[{ on := 8, ground := Ground.data }, { on := 8, ground := Ground.chain }, { on := 0, ground := Ground.phase }, { on := 1, ground := Ground.phase }, { on := 2, ground := Ground.phase }, { on := 3, ground := Ground.phase }, { on := 4, ground := Ground.phase }, { on := 5, ground := Ground.phase }, { on := 6, ground := Ground.phase }, { on := 7, ground := Ground.phase }, { on := 8, ground := Ground.phase }], guard := none }) (v := ?_) rfl (by kernel_rfl) (by kernel_rfl) (by kernel_rfl) (fun _ _ _ h => h) (Or.inl ⟨by rfl, ?_⟩) (by assumption) ?_
          rotate_left
          · (intro w hSw; (try dsimp only at hSw); go_simp; try (with_reducible rfl))
          simp only [Act.put, List.setIfInBounds_toArray, List.set_cons_zero, List.set_cons_succ]
          refine wpAnyH_done (by kernel_rfl) ?_ _
          refine NoPanic.normal ?_
          have hbf : Below w.heap.size w w11 := hb.trans ((hlD.trans (hb11.mono hlD.size)).mono hb.size)
          clear hHeld t1 hb11 hckD hibD
          go_wp2
          go_ret
          exact ⟨rfl, hbf⟩
end Go.Proofs.Ytemhhgpgpjiijaa
