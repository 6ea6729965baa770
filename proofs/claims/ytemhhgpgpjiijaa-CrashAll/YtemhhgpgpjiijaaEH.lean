/- CrashEach: the walk. -/
import Derived.Test.YtemhhgpgpjiijaaEG
namespace Go.Proofs.Ytemhhgpgpjiijaa
open Go.RowKit Go.Maps
set_option linter.unusedVariables false

/-- Which places of a list whose things are all different a set has. -/
theorem sb_has (ns : List Int) (hd : ∀ i j, i < ns.length → j < ns.length → ns.getD i 0 = ns.getD j 0 → i = j) (K : Nat) : ∀ n, n ≤ ns.length → ∀ i, i < ns.length → (ns.getD i 0 ∈ sb ns K n ↔ i < n ∧ K / 2 ^ i % 2 = 1)
  | 0, _, i, _ => by simp [sb]
  | n + 1, hn, i, hi => by
    have ih := sb_has ns hd K n (by omega) i hi
    rw [sb, List.mem_append, ih]
    by_cases hb : K / 2 ^ n % 2 = 1
    · rw [if_pos hb, List.mem_singleton]
      constructor
      · rintro (⟨h1, h2⟩ | h1)
        · exact ⟨by omega, h2⟩
        · have := hd i n hi (by omega) h1
          subst this
          exact ⟨by omega, hb⟩
      · rintro ⟨h1, h2⟩
        by_cases e : i = n
        · exact .inr (by rw [e])
        · exact .inl ⟨by omega, h2⟩
    · rw [if_neg hb]
      constructor
      · rintro (⟨h1, h2⟩ | h1)
        · exact ⟨by omega, h2⟩
        · simp at h1
      · rintro ⟨h1, h2⟩
        by_cases e : i = n
        · subst e; exact absurd h2 hb
        · exact .inl ⟨by omega, h2⟩

theorem sb_inj (ns : List Int) (hd : ∀ i j, i < ns.length → j < ns.length → ns.getD i 0 = ns.getD j 0 → i = j) {K K' : Nat} (hK : K < 2 ^ ns.length) (hK' : K' < 2 ^ ns.length) (h : sb ns K ns.length = sb ns K' ns.length) : K = K' := by
  apply Nat.eq_of_testBit_eq
  intro i
  by_cases hi : i < ns.length
  · have h1 := sb_has ns hd K ns.length (Nat.le_refl _) i hi
    have h2 := sb_has ns hd K' ns.length (Nat.le_refl _) i hi
    rw [h] at h1
    rw [Nat.testBit_eq_decide_div_mod_eq, Nat.testBit_eq_decide_div_mod_eq]
    have : (K / 2 ^ i % 2 = 1) ↔ (K' / 2 ^ i % 2 = 1) := ⟨fun e => (h2.1 (h1.2 ⟨hi, e⟩)).2, fun e => (h1.1 (h2.2 ⟨hi, e⟩)).2⟩
    simp [this]
  · have hp : 2 ^ ns.length ≤ 2 ^ i := Nat.pow_le_pow_right (by omega) (by omega)
    rw [Nat.testBit_lt_two_pow (by omega), Nat.testBit_lt_two_pow (by omega)]

theorem ids_apart {S : St} {m : Nat} {L : List (List Int)} (h : Bt S m L) : ∀ i j, i < (S.q.map Wr.id).length → j < (S.q.map Wr.id).length → (S.q.map Wr.id).getD i 0 = (S.q.map Wr.id).getD j 0 → i = j := by
  intro i j hi hj e
  rw [List.length_map] at hi hj
  have a := h.ids i S.q[i] (List.getElem?_eq_getElem hi)
  have b := h.ids j S.q[j] (List.getElem?_eq_getElem hj)
  simp only [List.getD_eq_getElem?_getD, List.getElem?_map, List.getElem?_eq_getElem hi, List.getElem?_eq_getElem hj, Option.map_some, Option.getD_some] at e
  omega

theorem DoBs.take {w : World} {p : Option Addr} {n : Nat} {D : List (Int × List Int)} (h : DoBs w p n D) (k : Nat) (hk : k ≤ n) : DoBs w p k (D.take k) :=
  ⟨by rw [List.length_take, h.len]; omega, by have := h.big; omega, fun h0 => by
    obtain ⟨b, o, e, hc⟩ := h.cells (by omega)
    exact ⟨b, o, e, fun i x hx => hc i x (by
      rw [List.getElem?_take] at hx
      split at hx
      · exact hx
      · cases hx)⟩⟩

theorem mod70 (b : Int) : ∃ k : Nat, wrap64 ((IntKind.u64.wrap b).tmod 70) = (k : Int) ∧ k < 70 := by
  have h0 : 0 ≤ IntKind.u64.wrap b := wrap_u64_nonneg b
  rw [Int.tmod_eq_emod_of_nonneg h0]
  have h1 : 0 ≤ IntKind.u64.wrap b % 70 := by omega
  have h2 : IntKind.u64.wrap b % 70 < 70 := by omega
  generalize IntKind.u64.wrap b % 70 = r at h1 h2
  refine ⟨r.toNat, ?_, ?_⟩
  · unfold wrap64; omega
  · omega

theorem each_arith (k nq : Nat) (hk : k < 70) (hn : nq ≤ 6) : ∃ (A : Int) (M : Nat), wrap64 (2 ^ nq) = A ∧ mst (k : Int) nq = M ∧ M ≤ 2 ^ nq ∧ M < 70 ∧ (A < (k : Int) ∧ ((M : Int) != A) = false ∨ (k : Int) ≤ A ∧ ((M : Int) != (k : Int)) = false) := by
  have hal2 : al nq = ((2 ^ nq : Nat) : Int) := by unfold al; rw [Nat.min_eq_left (by omega)]
  refine ⟨al nq, mst (k : Int) nq, wrap_al (by omega), rfl, ?_, ?_, ?_⟩
  · unfold mst
    rw [hal2]
    generalize 2 ^ nq = P
    omega
  · unfold mst; omega
  · unfold mst
    have := al_le nq
    generalize al nq = A at *
    by_cases h : A < (k : Int)
    · refine .inl ⟨h, ?_⟩
      have : ((min (k : Int) A).toNat : Int) = A := by omega
      rw [this]; simp
    · refine .inr ⟨by omega, ?_⟩
      have : ((min (k : Int) A).toNat : Int) = (k : Int) := by omega
      rw [this]; simp

theorem row_cap {w : World} {B e s M cv : Nat} {pv : Option Addr} {vs : List Value} (ho : w.ownsRow B e s (.slice pv M cv) M vs) : M ≤ cv ∧ cv ≤ 9223372036854775807 := by
  rcases ho.2 with ⟨h, e0⟩ | ⟨g', cap', cur, h, _, _, r1, r2, _⟩
  · cases h; omega
  · cases h; unfold maxLen at r2; omega

/-- A set of those that were told, read. -/
theorem set_at {w3 wr : World} {B M g cv nq : Nat} {vs : List Value} {ns : List Int} (ho : w3.ownsRow B 37 1 (.slice (some ⟨g, 0, none⟩) M cv) M vs) (hv : ∀ (i : Nat) (u : Value), vs[i]? = some u → Vs B ns (i, u) w3)
    (hr : ∀ x ∈ ns, -9223372036854775808 ≤ x ∧ x ≤ 9223372036854775807) (hn : ns.length = nq ∧ nq ≤ 64) {j : Nat} (hj : j < M) (hb : Below w3.heap.size w3 wr) : ∃ pu cu, wr.cell? ⟨g, j, none⟩ = some (.slice pu (sb ns j nq).length cu) ∧ II wr pu (sb ns j nq).length (sb ns j nq) := by
  have hvl : vs.length = M := by have := ho.1; simpa using this
  obtain ⟨u, hu⟩ : ∃ u, vs[j]? = some u := ⟨vs[j]'(by omega), List.getElem?_eq_getElem (by omega)⟩
  have hV := hv j u hu
  unfold Vs at hV
  rw [hn.1] at hV
  dsimp only at hV
  have hsl := sb_len ns j nq
  obtain ⟨pu, cu, rfl, hi, _⟩ := ids_ii hV (by omega) (fun y hy => hr y (sb_mem ns j nq (by omega) y hy))
  refine ⟨pu, cu, ?_, hi.kept hb⟩
  have hgl := (World.ownsRow.lt ho g rfl).2
  rw [hb.cell (p := ⟨g, j, none⟩) hgl, World.ownsRow.cellAt ho j (by omega), hu]

set_option maxRecDepth 10000 in
set_option maxHeartbeats 4000000 in
theorem each_walk (ip : Option Addr) (m ic : Nat) (L : List (List Int)) (p : Option Addr) (n c : Nat) (D : List (Int × List Int)) (most : Int) (w : World) (hI : IB w ip m L) (h24 : m * 24 ≤ 140737488355328) (h : DoBs w p n D) (hc : n ≤ c) (hcm : c ≤ 9223372036854775807) :
    Calls Try.prog 4 #[.slice ip m ic, .slice p n c, .int .i64 most] w fun e w' => e = .returned (.bool true) ∧ Below w.heap.size w w' := by
  have hbig := h.big
  obtain ⟨n6, hn6, hn6a, hn6b⟩ : ∃ n6 : Nat, n6 = min n 6 ∧ n6 ≤ n ∧ n6 ≤ 6 := ⟨_, rfl, by omega, by omega⟩
  have hcc : (n6 : Int) ≤ (c : Int) := by omega
  have H6 := (show Hid _ from hn6)
  clear hn6
  have CB := (show Hid _ from both_ok ip m ic L p n6 c _ w hI h24 (h.take n6 hn6a))
  clear h
  obtain ⟨k, hk, hk70⟩ := mod70 most
  go_enter Try.func4, Try.ntmps4
  have hcase : n6 = 6 ∧ (6 : Int) < (n : Int) ∨ n6 = n ∧ (n : Int) ≤ 6 := by have := H6.out; omega
  rcases hcase with ⟨rfl, hle⟩ | ⟨rfl, hle⟩
  all_goals
    clear H6
    go_wp2_with fail
    refine Calls.mono CB.out ?_
    clear CB
    rintro e w1 ⟨hb1, rfl | ⟨hgood, a, mb, fb, qv, x, S, rfl, hd, hbt, hq⟩⟩
    · go_wp2
      go_ret
      exact ⟨rfl, hb1⟩
    · have hq6 : S.q.length ≤ 6 := by omega
      have hap := ids_apart hbt
      have hlm : (S.q.map Wr.id).length = S.q.length := by simp
      have hrng := ids_rng hd
      have CS := (show Hid _ from csets_ok hd (k : Int))
      clear hgood hbt
      obtain ⟨A, M, hwa, hM, hM1, hM70, hc2⟩ := each_arith k S.q.length hk70 hq6
      have HMA := (show Hid _ from hc2)
      have HM1 := (show Hid _ from hM1)
      clear hc2 hM1
      go_wp2_with fail
      simp only [hk]
      clear hk
      refine Calls.mono CS.out ?_
      clear CS
      rintro e w2 ⟨v, vs, rfl, ho, hvs, hb2⟩
      rw [hM] at ho
      clear hM
      obtain ⟨pv, cv, rfl, hpg⟩ := row_case ho
      have hvl : vs.length = M := by have := ho.1; simpa using this
      have hcv := row_cap ho
      have hd2 := hd.later hb2
      have CQ := (show Hid _ from queue_ok hd2)
      obtain ⟨nq, hnq⟩ : ∃ nq, S.q.length = nq := ⟨_, rfl⟩
      obtain ⟨ns, hns⟩ : ∃ ns, S.q.map Wr.id = ns := ⟨_, rfl⟩
      rw [hns] at hap hlm hrng hvs
      go_wp2_with fail
      refine Calls.mono CQ.out ?_
      clear CQ
      rintro e w3 ⟨g3, gs3, rfl, hs3, hb3⟩
      rw [hnq] at hwa hlm hq6 HM1 ⊢
      have hd3 := hd2.later hb3
      have ho3 := ownsRow_kept ho (w' := w3) (fun i hi => hb3.block i (ho.lt i hi).2)
      have hvs3 : ∀ (i : Nat) (u : Value), vs[i]? = some u → Vs w1.heap.size ns (i, u) w3 := fun i u hu => ownsRow_kept (hvs i u hu) (fun t ht => hb3.block t (World.ownsRow.lt (hvs i u hu) t ht).2)
      have hbw3 := (hb1.trans (hb2.mono hb1.size)).trans (hb3.mono (Nat.le_trans hb1.size hb2.size))
      have HO := (show Hid _ from ho3)
      have HV := (show Hid _ from hvs3)
      have HD := (show Hid _ from hd3)
      have HAP := (show Hid _ from hap)
      have HR := (show Hid _ from hrng)
      have HNS := (show Hid _ from hns)
      have HNQ := (show Hid _ from hnq)
      clear ho ho3 hvs hvs3 hd hd2 hd3 hap hrng hns hnq hs3 hb1 hb2 hb3 hq
      rcases HMA.out with ⟨hc2, hMA⟩ | ⟨hc2, hMA⟩
      all_goals
        go_wp2_with fail
        try simp only [hwa]
        clear hwa hMA HMA
        go_loopw [51] (fun i wr => ∃ j : Nat, j ≤ M ∧ i = .int .i64 (j : Int) ∧ Below w3.heap.size w3 wr) (fun i _ => M - (intOf i).toNat)
        case atStart => exact ⟨0, by omega, rfl, Below.refl _ _⟩
        case round =>
          obtain ⟨j, hj, rfl, hb⟩ := hrel
          by_cases hlt : j < M
          · obtain ⟨g, rfl⟩ := hpg (by omega)
            obtain ⟨pu, cu, hcu, hiu⟩ := set_at (nq := nq) HO.out HV.out HR.out ⟨hlm, by omega⟩ hlt hb
            have hdr := HD.out.later hb
            have CO := (show Hid _ from cof_ok hdr j (by omega))
            rw [HNS.out, HNQ.out] at CO
            have hjI : (j : Int) < (M : Int) := by omega
            have hjw : IntKind.u64.wrap (j : Int) = (j : Int) := by rw [IntKind.wrap_u64]; omega
            have hjc : (j : Int) ≤ (cv : Int) := by omega
            have hsl := sb_len ns j nq
            obtain ⟨ls, hls⟩ : ∃ ls, (sb ns j nq).length = ls := ⟨_, rfl⟩
            rw [hls] at hcu hiu CO hsl
            clear hdr
            go_wp2_with fail
            refine Calls.mono CO.out ?_
            clear CO
            rintro e w5 ⟨v5, rfl, ho5, hb5⟩
            obtain ⟨p5, c5, rfl, hi5, _⟩ := ids_ii ho5 (by omega) (fun y hy => HR.out y (sb_mem ns j nq (by omega) y hy))
            have CE := (show Hid _ from iequal_ok pu p5 ls ls cu c5 _ _ w5 (hiu.kept hb5) hi5)
            rw [decide_eq_true rfl] at CE
            clear ho5 hi5
            go_wp2_with fail
            refine Calls.mono CE.out ?_
            clear CE
            rintro e w6 ⟨rfl, hb6⟩
            have hb56 := hb5.trans (hb6.mono hb5.size)
            have hiu6 := (hiu.kept hb5).kept hb6
            have hbx := hb.trans (hb56.mono hb.size)
            clear hb5 hb6 hb56 hiu hcu
            go_wp2_with fail
            go_loopw [67] (fun i wx => ∃ t : Nat, t ≤ j ∧ i = .int .i64 (t : Int) ∧ Below w6.heap.size w6 wx) (fun i _ => j - (intOf i).toNat)
            case atStart => exact ⟨0, by omega, rfl, Below.refl _ _⟩
            case round =>
              obtain ⟨t, ht, rfl, hbt⟩ := hrel
              by_cases hlt2 : t < j
              · obtain ⟨pt, ct, hct, hit⟩ := set_at (nq := nq) HO.out HV.out HR.out ⟨hlm, by omega⟩ (show t < M by omega) (hbx.trans (hbt.mono hbx.size))
                have CE := (show Hid _ from iequal_ok pu pt ls _ cu ct _ _ _ (hiu6.kept hbt) hit)
                rw [decide_eq_false (fun e => by have := sb_inj ns HAP.out (K := j) (K' := t) (by rw [hlm]; have := HM1.out; omega) (by rw [hlm]; have := HM1.out; omega) (by rw [hlm]; exact e); omega)] at CE
                have htI : (t : Int) < (j : Int) := by omega
                generalize (sb ns t nq).length = lt at hct CE
                clear hit
                go_wp2_with fail
                refine Calls.mono CE.out ?_
                clear CE
                rintro e w7 ⟨rfl, hb7⟩
                go_wp2
                go_roundw
                case rel => exact ⟨t + 1, by omega, by go_num, hbt.trans (hb7.mono hbt.size)⟩
                case measure => simp [intOf]; omega
              · obtain rfl : t = j := by omega
                go_wp2
                go_roundw
                case rel =>
                  exact ⟨t + 1, by omega, by go_num, hbx.trans (hbt.mono hbx.size)⟩
                case measure => simp [intOf]; omega
          · obtain rfl : j = M := by omega
            go_wp2
            go_ret
            exact ⟨rfl, hbw3.trans (hb.mono hbw3.size)⟩
end Go.Proofs.Ytemhhgpgpjiijaa
