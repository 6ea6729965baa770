/- The document's set: the numbers of a block, bytes with patches over them. -/
import Derived.Test.YteapkfnklbhdfaaRef
namespace Go.Proofs.Yteapkfnklbhdfaa
open Go.RowKit Go.Maps
set_option linter.unusedVariables false
section
variable {B : Nat} {w : World} {x : Nat} {lv : Value} {last : Nat} {L : List Pv}

set_option maxRecDepth 100000 in
set_option maxHeartbeats 2000000 in
theorem rof_ok (h : RZ B w x lv last L) (b : Int) : Calls Try.prog 28 #[.pointer (some ⟨x, 0, none⟩), .int .i64 b] w fun e w' => ∃ v, e = .returned v ∧ Nums w.heap.size w' v (idsOf L b) ∧ Below w.heap.size w w' := by
  obtain ⟨i0, hi, hz0, hz1, hz2⟩ := info_parts info3
  have c0 := h.c0
  obtain ⟨q, c, rfl, hr⟩ := rows5_of h.lst
  have hlen := h.len
  have hsml := h.sml
  clear h
  go_enter Try.func28, Try.ntmps28
  go_wp2_with fail
  go_loopw [5, 13] (fun v i wr => ∃ j : Nat, j ≤ L.length ∧ i = .int .i64 (j : Int) ∧ Nums w.heap.size wr v (idsOf (L.take j) b) ∧ Below w.heap.size w wr) (fun v i _ => L.length - (intOf i).toNat)
  case atStart => exact ⟨0, by omega, rfl, Nums.nil _ _, Below.refl _ _⟩
  case round =>
    obtain ⟨j, hj, rfl, hN, hb⟩ := hrel
    generalize hvv : u5 = v at *
    by_cases hlt : j < L.length
    · obtain ⟨p, hp⟩ : ∃ p, L[j]? = some p := ⟨_, List.getElem?_eq_getElem hlt⟩
      obtain ⟨g, rfl, d0, d1, d2, d3, d4⟩ := hr.at hb hp
      have hjI : (j : Int) < (L.length : Int) := by omega
      have hj0 : (0 : Int) ≤ (j : Int) := by omega
      have HT : Hid (idsOf (L.take (j + 1)) b = if (p.blk : Int) = b then idsOf (L.take j) b ++ [(p.id : Int)] else idsOf (L.take j) b) := by
        show _ = _
        rw [List.take_add_one, hp]
        exact idsOf_snoc _ _ _
      have hil : (idsOf (L.take j) b).length ≤ 1000 := by
        rw [idsOf_eq, List.length_map]
        refine Nat.le_trans (List.length_filter_le _ _) ?_
        rw [List.length_take]; omega
      clear hp
      by_cases hbk : (p.blk : Int) = b
      · have HI := HT.out
        rw [if_pos hbk] at HI
        have HI' : Hid _ := HI
        have hq : ((p.blk : Int) == b) = true := beq_iff_eq.2 hbk
        obtain ⟨W1, hW1⟩ : ∃ W1, wr.alloc (.cells #[.int .i64 (p.id : Int), .int .i64 (p.blk : Int), .int .i64 (p.off : Int), .slice p.bp p.bs.length p.bc, .slice p.np p.nd.length p.nc] 44) = W1 := ⟨_, rfl⟩
        have hb1 : Below w.heap.size w W1 := by rw [← hW1]; exact hb.alloc hb.size _
        have hN1 : Nums w.heap.size W1 v (idsOf (L.take j) b) := hN.kept (by rw [← hW1]; exact (Below.refl _ _).alloc (Nat.le_refl _) _)
        have hc1 : W1.cell? ⟨wr.heap.size, 0, none⟩ = some (.int .i64 (p.id : Int)) ∧ W1.cell? ⟨wr.heap.size, 1, none⟩ = some (.int .i64 (p.blk : Int)) := by
          rw [← hW1]
          exact ⟨by rw [cell_of_row _ _ 0 _ 44 _ (at_new rfl)]; rfl, by rw [cell_of_row _ _ 1 _ 44 _ (at_new rfl)]; rfl⟩
        clear HI hbk HT hN hb
        go_wp2_with (first
          | (at_builtin; refine wpList_append_own _ rfl _ _ 30 rfl w.heap.size 3 i0 (.int .i64 0) 1 8 Try.underlying30 hi hz0 hz1 hz2 rfl (by decide) _ _ _ rfl (World.ownsRow.alloc hN1 _) ⟨W1.heap.size, 0, none⟩ 1 1 [.int .i64 (p.id : Int)] rfl rfl (cell_one_new _ _ _) (by simp [Value.oneCell']) (by unfold maxLen; omega) (by omega) (by have := hb1.size; simp; omega) ?_; intro v' w3 hown hgrow _; have hown := Nums.snoc hown; obtain ⟨g', cap', rfl⟩ := Nums.succ hown))
        have hb3 := (hb1.alloc hb1.size _).grown hgrow (by have := hb1.size; simp; omega) (by intro k hk; exact (World.ownsRow.lt hN1 k hk).1)
        go_roundw
        case rel => exact ⟨j + 1, by omega, by go_num, by rw [HI'.out]; exact hown, hb3⟩
        case measure => simp [intOf]; omega
      · have HI := HT.out
        rw [if_neg hbk] at HI
        have HI' : Hid _ := HI
        have hbA := below_box hb hb.size (.cells #[.int .i64 (p.id : Int), .int .i64 (p.blk : Int), .int .i64 (p.off : Int), .slice p.bp p.bs.length p.bc, .slice p.np p.nd.length p.nc] 44)
        have hNA := hN.kept ((Below.refl _ _).alloc (Nat.le_refl _) (.cells #[.int .i64 (p.id : Int), .int .i64 (p.blk : Int), .int .i64 (p.off : Int), .slice p.bp p.bs.length p.bc, .slice p.np p.nd.length p.nc] 44))
        clear HI HT
        go_wp2_with fail
        go_roundw
        case rel => exact ⟨j + 1, by omega, by go_num, by rw [HI'.out]; exact hNA, hbA⟩
        case measure => simp [intOf]; omega
    · obtain rfl : j = L.length := by omega
      rw [List.take_length] at hN
      go_wp2_with fail
      go_ret
      exact ⟨_, rfl, hN, hb⟩

theorem fi_neg {L : List Pv} {k : Int} (h : (fP L k).isSome = false) : fi L k = -1 := fi_none (fun q hq e => by rw [fP_isSome.2 ⟨q, hq, e⟩] at h; cases h)
theorem fi_nonneg {L : List Pv} {k : Int} (h : (fP L k).isSome = true) : ¬ fi L k < 0 := by
  unfold fi
  cases e : L.findIdx? (fun p => decide ((p.id : Int) = k)) with
  | some i => simp
  | none =>
    rw [List.findIdx?_eq_none_iff] at e
    obtain ⟨p, hp, hk⟩ := fP_isSome.1 h
    have := e p hp
    simp [hk] at this

def sel (L : List Pv) (b : Int) (zs : List Int) : List Pv := (ofB L b).filter (fun p => decide ((p.id : Int) ∈ zs))
theorem sel_snoc (L : List Pv) (p : Pv) (b : Int) (zs : List Int) : sel (L ++ [p]) b zs = if (p.blk : Int) = b ∧ (p.id : Int) ∈ zs then sel L b zs ++ [p] else sel L b zs := by
  unfold sel ofB
  rw [List.filter_append, List.filter_append]
  by_cases h1 : (p.blk : Int) = b
  · by_cases h2 : (p.id : Int) ∈ zs
    · rw [if_pos ⟨h1, h2⟩]; simp [h1, h2]
    · rw [if_neg (fun h => h2 h.2)]; simp [h1, h2]
  · rw [if_neg (fun h => h1 h.1)]; simp [h1]
theorem take_snoc {L : List Pv} {j : Nat} {p : Pv} (hp : L[j]? = some p) : L.take (j + 1) = L.take j ++ [p] := by
  rw [List.take_add_one, hp]; rfl

theorem own_of {B : Nat} {w : World} {v : Value} {n : Nat} {xs : List Int} (hown : w.ownsRow B 5 1 v n (xs.map (Value.int .u8))) (h : 1 ≤ n) : ∃ g cap, v = .slice (some ⟨g, 0, none⟩) n cap ∧ Own B w g n cap xs := by
  have hv : v ≠ .slice none 0 0 := by
    intro e
    rcases hown.2 with ⟨_, e0⟩ | ⟨g, cap, cur, e', _⟩
    · omega
    · rw [e] at e'; cases e'
  obtain ⟨g, cap, e, ho⟩ := own_shape hown hv
  exact ⟨g, cap, e, ho⟩

theorem copy_run {B : Nat} {W : World} {g cap : Nat} {xs : List Int} (h : Own B W g 128 cap xs) (p : Pv) (hp : BI W p.bp p.bs.length p.bs) (hl : 1 ≤ p.bs.length) (ho : p.off + p.bs.length ≤ 128) (k : Nat) :
    ∃ W', (∀ ty, (Builtin.copy_ #[29, 29] ty #[.slice (some ⟨g, p.off, none⟩) (128 - p.off) (cap - p.off), .slice p.bp p.bs.length p.bc]).run Try.prog (W.drewN k) = .ok (.int .i64 (p.bs.length : Int)) W') ∧ Own B W' g 128 cap (ovr xs p) ∧ Frame (fun k => k = g) W W' := by
  obtain ⟨pb, po, hpe, hpc⟩ := hp.cells (by omega)
  have hxl : xs.length = 128 := h.len
  rcases h.2 with ⟨e, _⟩ | ⟨g', cap', cur, e, hbg, hgc, hnc, hcm, hcs, htk⟩
  · cases e
  cases e
  have hrow : (W.drewN k).heap[g]? = some (.cells cur 5 (0, 0)) := hgc
  obtain ⟨NEW, hNEW⟩ : ∃ NEW, (cur.toList.take p.off ++ p.bs.map (Value.int .u8) ++ cur.toList.drop (p.off + (p.bs.map (Value.int .u8)).length)).toArray = NEW := ⟨_, rfl⟩
  have hmin : Nat.min p.bs.length (128 - p.off) = p.bs.length := Nat.min_eq_left (by omega)
  refine ⟨(W.drewN k).setRow g NEW, fun ty => ?_, ⟨by simp [ovr_len (xs := xs) (p := p) (by omega), hxl], .inr ⟨g, cap, NEW, rfl, hbg, setRow_heap _ _ _ _ _ _ hrow, hnc, hcm, ?_, ?_⟩⟩, ?_⟩
  · have hsrc : ∀ j v, (p.bs.map (Value.int .u8))[j]? = some v → (W.drewN k).cell? ((⟨pb, po, none⟩ : Addr).add j) = some v := by
      have hk := hp
      rw [hpe] at hk
      exact hk.src'
    rw [hpe]
    have := run_copy_row (P := Try.prog) (W.drewN k) 29 29 ty 5 g p.off (128 - p.off) (cap - p.off) ⟨pb, po, none⟩ p.bs.length p.bc cur 5 (p.bs.map (Value.int .u8)) Try.underlying29 size5 hrow (by rw [hmin]; simp) hsrc (by simp; omega) (one_cells _)
    rw [this, hNEW]
    simp [goInt]
  · rw [← hNEW]; simp; omega
  · rw [← hNEW]
    have := splice_take cur.toList (xs.map (Value.int .u8)) (p.bs.map (Value.int .u8)) p.off (by simpa using htk) (by simp [hxl]) (by simp; omega)
    simp only [Nat.mul_one]
    show (_ : List Value).take 128 = _
    rw [List.toList_toArray, this]
    simp [ovr, List.map_take, List.map_drop]
  · refine ⟨rfl, rfl, rfl, by simp, fun i hi hne => ?_⟩
    rw [setRow_other _ _ _ _ hne]
    rfl

set_option maxRecDepth 100000 in
set_option maxHeartbeats 2000000 in
theorem rover_ok (h : RZ B w x lv last L) (b : Int) (dp : Option Addr) (dc : Nat) (xs : List Int) (hx : BI w dp 128 xs) (ip : Option Addr) (im ic : Nat) (zs : List Int) (hz : II w ip im zs) : Calls Try.prog 54 #[.pointer (some ⟨x, 0, none⟩), .int .i64 b, .slice dp 128 dc, .slice ip im ic] w fun e w' => ∃ g cap, e = .returned (.slice (some ⟨g, 0, none⟩) 128 cap) ∧ Own w.heap.size w' g 128 cap (ovrs (sel L b zs) xs) ∧ Below w.heap.size w w' := by
  have c0 := h.c0
  obtain ⟨q, c, rfl, hr⟩ := rows5_of h.lst
  have hlen := h.len
  have hsml := h.sml
  obtain ⟨i0, hi, hz0, hz1, hz2⟩ := info_parts info5
  have hids := h.ids
  obtain ⟨db, dof, rfl, _⟩ := hx.cells (by omega)
  have hb0 := (Below.refl w.heap.size w).alloc (Nat.le_refl _) (Obj.cells #[] 5)
  have hsrc := (hx.kept hb0).src'
  have hone := one_cells xs
  have hll : (xs.map (Value.int .u8)).length = 128 * 1 := by simp [hx.len]
  obtain ⟨LL, HLL⟩ : ∃ LL, Hid (xs.map (Value.int .u8) = LL) := ⟨_, rfl⟩
  rw [HLL.out] at hsrc hone hll
  have HH : Hid _ := h
  have HX : Hid _ := hx
  have HZ : Hid _ := hz
  clear h hx hz
  go_enter Try.func54, Try.ntmps54
  go_wp2_with (at_builtin; refine wpList_append_own _ rfl _ _ 29 rfl w.heap.size 5 i0 (.int .u8 0) 1 1 Try.underlying29 hi hz0 hz1 hz2 rfl (by decide) _ _ _ rfl (World.ownsRow_made w #[] 0 (Nat.le_refl _) (Nat.zero_le _) rfl) ⟨db, dof, none⟩ 128 dc LL rfl hll hsrc hone (by unfold maxLen; omega) (by omega) (by simp) ?_)
  intro v' w1 hown hgrow _
  have hb1 := hb0.grown hgrow (by simp) (by intro k hk; simp [Value.ownBlock] at hk; omega)
  have hown' : w1.ownsRow w.heap.size 5 1 v' 128 LL := by simpa using hown
  rw [← HLL.out] at hown'
  obtain ⟨g0, cap0, rfl, ho0⟩ := own_of hown' (by omega)
  have c01 : w1.cell? ⟨x, 0, none⟩ = some (.slice q L.length c) := by rw [hb1.cell (p := ⟨x, 0, none⟩) (lt_of_cell c0)]; exact c0
  clear hown hown' hgrow hsrc hone hll HLL hb0 hi hz0 hz1 hz2
  go_wp2_with fail
  go_loopw [20] (fun i wr => ∃ j : Nat, j ≤ L.length ∧ i = .int .i64 (j : Int) ∧ Own w.heap.size wr g0 128 cap0 (ovrs (sel (L.take j) b zs) xs) ∧ Below w.heap.size w wr) (fun i _ => L.length - (intOf i).toNat)
  case atStart => exact ⟨0, by omega, rfl, ho0, hb1⟩
  case round =>
    clear ho0 hb1 c01
    obtain ⟨j, hj, rfl, hO, hb⟩ := hrel
    by_cases hlt : j < L.length
    · obtain ⟨p, hp⟩ : ∃ p, L[j]? = some p := ⟨_, List.getElem?_eq_getElem hlt⟩
      obtain ⟨g, rfl, d0, d1, d2, d3, d4⟩ := hr.at hb hp
      have hjI : (j : Int) < (L.length : Int) := by omega
      have hj0 : (0 : Int) ≤ (j : Int) := by omega
      have hpm : p ∈ L := List.mem_of_getElem? hp
      have HT : Hid (sel (L.take (j + 1)) b zs = if (p.blk : Int) = b ∧ (p.id : Int) ∈ zs then sel (L.take j) b zs ++ [p] else sel (L.take j) b zs) := by show _ = _; rw [take_snoc hp, sel_snoc]
      obtain ⟨W1, hW1⟩ : ∃ W1, wr.alloc (.cells #[.int .i64 (p.id : Int), .int .i64 (p.blk : Int), .int .i64 (p.off : Int), .slice p.bp p.bs.length p.bc, .slice p.np p.nd.length p.nc] 44) = W1 := ⟨_, rfl⟩
      have hbr : Below wr.heap.size wr W1 := by rw [← hW1]; exact (Below.refl _ _).alloc (Nat.le_refl _) _
      have hb1 : Below w.heap.size w W1 := hb.trans (hbr.mono hb.size)
      have hO1 := hO.kept hbr
      have hc1 : W1.cell? ⟨wr.heap.size, 0, none⟩ = some (.int .i64 (p.id : Int)) ∧ W1.cell? ⟨wr.heap.size, 1, none⟩ = some (.int .i64 (p.blk : Int)) ∧ W1.cell? ⟨wr.heap.size, 2, none⟩ = some (.int .i64 (p.off : Int)) ∧ W1.cell? ⟨wr.heap.size, 3, none⟩ = some (.slice p.bp p.bs.length p.bc) := by
        rw [← hW1]
        refine ⟨?_, ?_, ?_, ?_⟩ <;> rw [cell_of_row _ _ _ _ 44 _ (at_new rfl)] <;> rfl
      obtain ⟨k0, k1, k2, k3⟩ := hc1
      have hha := rhas_ok (c := ic) (HZ.out.kept hb1) (p.id : Int)
      clear hp hO hb
      by_cases hbk : (p.blk : Int) = b
      · have hq : ((p.blk : Int) == b) = true := beq_iff_eq.2 hbk
        by_cases hin : (p.id : Int) ∈ zs
        · have HI := HT.out
          rw [if_pos ⟨hbk, hin⟩] at HI
          have HI' : Hid _ := HI
          rw [decide_eq_true hin] at hha
          have hpi := hids p hpm
          obtain ⟨W2, hcp, hO2, hF2⟩ := copy_run hO1 p ((HH.out.byt p hpm).1.kept hb1) hpi.2.2.2.1 hpi.2.2.2.2 1
          have hcd : ∀ ty, (Builtin.copy_ #[29, 29] ty #[.slice (some ⟨g0, p.off, none⟩) (128 - p.off) (cap0 - p.off), .slice p.bp p.bs.length p.bc]).run Try.prog W1.drew = .ok (.int .i64 (p.bs.length : Int)) W2 := hcp
          have hb2 : Below w.heap.size w W2 := hb1.trans (hF2.below hb1.size (fun k e => by rw [e]; exact hO1.spot.1))
          have ho1 : (p.off : Int) ≤ 128 := by omega
          have ho2 : p.off ≤ 128 := by omega
          have hnc := hO1.room.1
          have hne : ¬ cap0 = p.off := by omega
          have HO2 : Hid _ := hO2
          clear HI hbk hin HT hcp hO2 hpi hids hO1 hF2
          go_wp2_with fail
          refine same_at hha ?_
          clear hha
          go_wp2_with fail
          generalize p.off = off at *
          generalize p.bs.length = n at *
          generalize p.bp = bp at *
          clear d0 d1 d2 d3 d4 k0 k1
          go_region_with (fail)
          all_goals
            go_wp2_with fail
            go_roundw
            case rel => exact ⟨j + 1, by omega, by go_num, by rw [HI'.out, ovrs_snoc]; exact HO2.out, hb2⟩
            case measure => simp [intOf]; omega
        · have HI := HT.out
          rw [if_neg (fun h => hin h.2)] at HI
          have HI' : Hid _ := HI
          rw [decide_eq_false hin] at hha
          clear HI hbk hin HT
          go_wp2_with fail
          refine same_at hha ?_
          clear hha
          go_wp2_with fail
          go_roundw
          case rel => exact ⟨j + 1, by omega, by go_num, by rw [HI'.out]; exact hO1, hb1⟩
          case measure => simp [intOf]; omega
      · have hq : ((p.blk : Int) == b) = false := beq_eq_false_iff_ne.2 hbk
        have HI := HT.out
        rw [if_neg (fun h => hbk h.1)] at HI
        have HI' : Hid _ := HI
        clear HI hbk HT hha
        go_wp2_with fail
        go_roundw
        case rel => exact ⟨j + 1, by omega, by go_num, by rw [HI'.out]; exact hO1, hb1⟩
        case measure => simp [intOf]; omega
    · obtain rfl : j = L.length := by omega
      rw [List.take_length] at hO
      go_wp2_with fail
      go_ret
      exact ⟨_, _, rfl, hO, hb⟩

theorem risDone_ok (h : RZ B w x lv last L) (k : Int) (hk : I64 k) : Calls Try.prog 14 #[.pointer (some ⟨x, 0, none⟩), .int .i64 k] w fun e w' => e = .returned (.bool (dn last L k)) ∧ Below w.heap.size w w' := by
  have c1 := h.c1
  have hf := rfind_ok h k
  have hs : ∀ p ∈ L, True := fun _ _ => trivial
  by_cases h1 : 1 ≤ k
  · by_cases h2 : k ≤ (last : Int)
    · cases e : (fP L k).isSome with
      | true =>
        have HE : Hid (dn last L k = false) := by show _ = _; unfold dn; rw [e]; simp
        have hfi : decide (fi L k < 0) = false := decide_eq_false (fi_nonneg e)
        clear h e hs
        generalize fi L k = f at *
        go_enter Try.func14, Try.ntmps14
        go_wp2_with fail
        refine below_at hf ?_
        intro w1 hb1
        clear hf
        go_wp2_with fail
        go_ret
        exact ⟨by rw [HE.out]; rfl, hb1⟩
      | false =>
        have HE : Hid (dn last L k = true) := by show _ = _; unfold dn; rw [e, kn_true.2 ⟨h1, h2⟩]; rfl
        have hfi : fi L k = -1 := fi_neg e
        rw [hfi] at hf
        clear h e hs hfi
        go_enter Try.func14, Try.ntmps14
        go_wp2_with fail
        refine below_at hf ?_
        intro w1 hb1
        clear hf
        go_wp2_with fail
        go_ret
        exact ⟨by rw [HE.out]; rfl, hb1⟩
    · have HE : Hid (dn last L k = false) := by show _ = _; unfold dn; rw [kn_false.2 (fun h => h2 h.2)]; rfl
      clear h hf hs
      go_enter Try.func14, Try.ntmps14
      go_wp2_with fail
      go_ret
      exact ⟨by rw [HE.out]; rfl, Below.refl _ _⟩
  · have HE : Hid (dn last L k = false) := by show _ = _; unfold dn; rw [kn_false.2 (fun h => h1 h.1)]; rfl
    clear h hf hs
    go_enter Try.func14, Try.ntmps14
    go_wp2_with fail
    go_ret
    exact ⟨by rw [HE.out]; rfl, Below.refl _ _⟩

theorem rnow_arg (h : RZ B w x lv last L) (b : Int) (p : Option Addr) (n c : Nat) (hn : n ≠ 128) (hn2 : n ≤ 9223372036854775807) :
    Calls Try.prog 17 #[.pointer (some ⟨x, 0, none⟩), .int .i64 b, .slice p n c] w fun e w' => e = .returned (.tuple #[.slice none 0 0, .int .i64 1]) ∧ w' = w := by
  have h1 : ¬ (n : Int) = 128 := by omega
  clear h
  go_enter Try.func17, Try.ntmps17
  go_wp2_with fail
  go_ret2
  exact ⟨rfl, rfl⟩

theorem sel_all (L : List Pv) (b : Int) : sel L b (idsOf L b) = ofB L b := by
  unfold sel
  refine List.filter_eq_self.2 (fun p hp => decide_eq_true ?_)
  rw [idsOf_eq]
  exact List.mem_map.2 ⟨p, hp, rfl⟩

set_option maxHeartbeats 1000000 in
theorem rnow_ok (h : RZ B w x lv last L) (b : Int) (p : Option Addr) (c : Nat) (xs : List Int) (hx : BI w p 128 xs) :
    Calls Try.prog 17 #[.pointer (some ⟨x, 0, none⟩), .int .i64 b, .slice p 128 c] w fun e w' => ∃ g cap, e = .returned (.tuple #[.slice (some ⟨g, 0, none⟩) 128 cap, .int .i64 0]) ∧ Own w.heap.size w' g 128 cap (ovrs (ofB L b) xs) ∧ Below w.heap.size w w' := by
  have hof := rof_ok h b
  have hfit : ∀ y ∈ idsOf L b, I64 y := fun y hy => by
    rw [idsOf_eq] at hy
    obtain ⟨q, hq, rfl⟩ := List.mem_map.1 hy
    have := h.ids q (mem_ofB.1 hq).1
    have := h.sml
    exact ⟨by omega, by omega⟩
  have hl : (idsOf L b).length ≤ 1000 := by
    rw [idsOf_eq, List.length_map]
    have := List.length_filter_le (fun p : Pv => decide ((p.blk : Int) = b)) L
    have := h.len
    have := h.sml
    unfold ofB; omega
  have HH : Hid _ := h
  clear h
  go_enter Try.func17, Try.ntmps17
  go_wp2_with fail
  refine hof.mono ?_
  rintro _ w1 ⟨v, rfl, hN, hb1⟩
  obtain ⟨q, d, rfl, hI, _⟩ := hN.ii (by omega) hfit
  have hov := rover_ok (HH.out.kept hb1) b p c xs (hx.kept hb1) q _ d _ hI
  rw [sel_all] at hov
  clear hof hN hfit
  generalize (idsOf L b).length = m at *
  dsimp only
  go_wp2_with fail
  refine hov.mono ?_
  rintro _ w2 ⟨g, cap, rfl, hO, hb2⟩
  clear hov
  dsimp only
  go_wp2_with fail
  go_ret2
  exact ⟨g, cap, rfl, hO.base hb1.size, hb1.trans (hb2.mono hb1.size)⟩
end
end Go.Proofs.Yteapkfnklbhdfaa
