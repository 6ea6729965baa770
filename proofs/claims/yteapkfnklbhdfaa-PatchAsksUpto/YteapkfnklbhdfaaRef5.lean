/- The document's set: Closure. -/
import Derived.Test.YteapkfnklbhdfaaRef4
import Derived.Test.YteapkfnklbhdfaaApp
namespace Go.Proofs.Yteapkfnklbhdfaa
open Go.RowKit Go.Maps
set_option linter.unusedVariables false

set_option maxRecDepth 20000 in
theorem nums_app_ii {B : Nat} {w : World} {v1 : Value} {A : List Int} (h1 : Nums B w v1 A) {q : Option Addr} {m c : Nat} {C : List Int} (h2 : II w q m C) (hB : B ≤ w.heap.size) (hl : (A.length + m) * 8 ≤ 140737488355328) (ty : TypeId) :
    ∃ v' w', (Builtin.append_ #[30, 30] ty #[v1, .slice q m c]).run Try.prog w = .ok v' w' ∧ Nums B w' v' (A ++ C) ∧ w.grownBy w' v1.ownBlock ∧ (v'.ownBlock = v1.ownBlock ∨ v'.ownBlock = some w.heap.size) := by
  obtain ⟨i0, hi, hz0, hz1, hz2⟩ := info_parts info3
  have hlen := h2.len
  cases q with
  | none =>
    have hm : m = 0 := by
      rcases Nat.eq_zero_or_pos m with h | h
      · exact h
      · obtain ⟨b, o, e, _⟩ := h2.cells h
        cases e
    subst hm
    have : C = [] := List.length_eq_zero_iff.1 hlen
    subst this
    exact ⟨v1, w, run_append_none v1 h1 c ty, by rw [List.append_nil]; exact h1, World.grownBy.refl _ _, .inl rfl⟩
  | some a =>
    have hcell : ∀ j u, (C.map (Value.int .i64))[j]? = some u → w.cell? (a.add j) = some u := fun j u hu => by
      have hj : j < m := by have := (List.getElem?_eq_some_iff.1 hu).1; rw [← hlen]; simpa using this
      obtain ⟨b, o, e, hc⟩ := h2.cells (by omega)
      injection e with e
      subst e
      rw [Addr.add_mid, hc j hj]
      rw [List.getElem?_map] at hu
      rw [List.getD_eq_getElem?_getD]
      cases e : C[j]? with
      | none => rw [e] at hu; cases hu
      | some y => rw [e] at hu; simpa using hu
    obtain ⟨v', w', hr, ho, hgr, _, hb⟩ := run_append_own_at (P := Try.prog) w B 30 ty 3 i0 (.int .i64 0) 1 8 Try.underlying30 hi hz0 hz1 hz2 rfl (by decide) v1 A.length (A.map (Value.int .i64)) h1 a m c (C.map (Value.int .i64)) (by simp [hlen]) hcell (fun u hu => by obtain ⟨x, _, rfl⟩ := List.mem_map.1 hu; rfl) (by unfold maxLen; omega) (by omega) hB
    refine ⟨v', w', hr, ?_, hgr, hb⟩
    unfold Nums
    rw [List.length_append, List.map_append, hlen]
    exact ho

theorem wpList_append_run {P : Program} {ops : Array Oper} {rest : List Oper} {o : Oper} {a : Act} {Q : Exit → Act → World → Prop} {w w' : World} (hgd : o.guard = none) (s x : Operand) (t u : TypeId) (ho : o.op = .call { callee := .builtin .append, args := #[s, x], argTypes := #[t, u] }) {v1 v2 v' : Value}
    (hs : a.eval s = v1) (hx : a.eval x = v2) (hr : (Builtin.append_ #[t, u] o.type #[v1, v2]).run P w = .ok v' w') (h : wpList P ops Q rest (a.put o.dst v') w') : wpList P ops Q (o :: rest) a w :=
  wpList_plain hgd fun K hK => wp_append s x ho hs hx hr (hK _ _ h)

def Sm (n : Nat) : Prop := (n + 1001000) * 8 ≤ 140737488355328
/-- What is wanted, going through the patches from the last one on. -/
def wf : List Pv → List Int → List Int
  | [], zs => zs
  | p :: l, zs => if (p.id : Int) ∈ wf l zs then wf l zs ++ p.nd else wf l zs
theorem wf_len (K : Nat) : ∀ (l : List Pv) (zs : List Int), (∀ p ∈ l, p.nd.length ≤ K) → (wf l zs).length ≤ zs.length + K * l.length
  | [], zs, _ => by simp [wf]
  | p :: l, zs, h => by
    have ih := wf_len K l zs (fun q hq => h q (List.mem_cons_of_mem _ hq))
    have hp := h p List.mem_cons_self
    unfold wf
    rw [List.length_cons, Nat.mul_add]
    split
    · rw [List.length_append]; omega
    · omega
theorem wf_mem : ∀ (l : List Pv) (zs : List Int) (y : Int), y ∈ wf l zs → y ∈ zs ∨ ∃ p ∈ l, y ∈ p.nd
  | [], zs, y, h => .inl h
  | p :: l, zs, y, h => by
    unfold wf at h
    split at h
    · rcases List.mem_append.1 h with h | h
      · rcases wf_mem l zs y h with h | ⟨q, hq, h⟩
        · exact .inl h
        · exact .inr ⟨q, List.mem_cons_of_mem _ hq, h⟩
      · exact .inr ⟨p, List.mem_cons_self, h⟩
    · rcases wf_mem l zs y h with h | ⟨q, hq, h⟩
      · exact .inl h
      · exact .inr ⟨q, List.mem_cons_of_mem _ hq, h⟩
theorem drop_cons {L : List Pv} {j : Nat} {p : Pv} (hp : L[j]? = some p) : L.drop j = p :: L.drop (j + 1) := by
  have hj := (List.getElem?_eq_some_iff.1 hp).1
  rw [List.drop_eq_getElem_cons hj]
  rw [List.getElem?_eq_getElem hj] at hp
  rw [Option.some.inj hp]
def clL (L : List Pv) (W : List Int) : List Int := (L.filter (fun p => decide ((p.id : Int) ∈ W))).map (fun p => (p.id : Int))
theorem clL_snoc (L : List Pv) (p : Pv) (W : List Int) : clL (L ++ [p]) W = if (p.id : Int) ∈ W then clL L W ++ [(p.id : Int)] else clL L W := by
  unfold clL
  rw [List.filter_append]
  by_cases h : (p.id : Int) ∈ W
  · rw [if_pos h]; simp [h]
  · rw [if_neg h]; simp [h]

section
variable {B : Nat} {w : World} {x : Nat} {lv : Value} {last : Nat} {L : List Pv}

set_option maxRecDepth 100000 in
set_option maxHeartbeats 4000000 in
theorem rclosure_ok (h : RZ B w x lv last L) (hnl : ∀ p ∈ L, p.nd.length ≤ 1000) (p : Option Addr) (n c : Nat) (zs : List Int) (hz : II w p n zs) (hn : Sm n) : Calls Try.prog 26 #[.pointer (some ⟨x, 0, none⟩), .slice p n c] w fun e w' => ∃ v, e = .returned v ∧ Nums w.heap.size w' v (clL L (wf L zs)) ∧ Below w.heap.size w w' := by
  obtain ⟨i0, hi, hz0, hz1, hz2⟩ := info_parts info3
  have c0 := h.c0
  obtain ⟨q, cq, hlv, hr⟩ := rows5_of h.lst
  subst hlv
  have hlen := h.len
  have hsml := h.sml
  have hzl := hz.len
  have HH : Hid _ := h
  clear h
  have hb0 := (Below.refl w.heap.size w).alloc (Nat.le_refl _) (Obj.cells #[] 3)
  have hN0 : Nums w.heap.size (w.alloc (.cells #[] 3)) (.slice (some ⟨w.heap.size, 0, none⟩) 0 0) [] := World.ownsRow_made w #[] 0 (Nat.le_refl _) (Nat.zero_le _) rfl
  obtain ⟨v1, w1, hr1, hN1, hg1, hv1⟩ := nums_app_ii (c := c) hN0 (hz.kept hb0) (by simp) (by unfold Sm at hn; simp only [List.length_nil]; omega) 30
  have hb1 : Below w.heap.size w w1 := hb0.grown hg1 (by simp) (by intro k hk; simp [Value.ownBlock] at hk; omega)
  rw [List.nil_append] at hN1
  have c01 : w1.cell? ⟨x, 0, none⟩ = some (.slice q L.length cq) := by rw [hb1.cell (p := ⟨x, 0, none⟩) (lt_of_cell c0)]; exact c0
  clear hN0 hb0 hg1 hv1
  go_enter Try.func26, Try.ntmps26
  go_wp2_with (first | (at_builtin; refine wpList_append_run rfl _ _ _ _ rfl rfl rfl hr1 ?_; clear hr1))
  have hfit : ∀ j, ∀ y ∈ wf (L.drop j) zs, I64 y := fun j y hy => by
    rcases wf_mem _ _ _ hy with h | ⟨p1, hp1, h⟩
    · exact hz.fit y h
    · exact (HH.out.nee p1 (List.mem_of_mem_drop hp1)).1.fit y h
  have hwl : ∀ j, (wf (L.drop j) zs).length ≤ n + 1000000 := fun j => by
    have h1 := wf_len 1000 (L.drop j) zs (fun p1 hp1 => hnl p1 (List.mem_of_mem_drop hp1))
    rw [List.length_drop] at h1
    have : 1000 * (L.length - j) ≤ 1000 * 1000 := Nat.mul_le_mul_left _ (by omega)
    omega
  have HFit : Hid _ := hfit
  have HWl : Hid _ := hwl
  clear hfit hwl
  go_loopw [5, 6] (fun v i wr => ∃ j : Nat, j ≤ L.length ∧ i = .int .i64 ((j : Int) - 1) ∧ Nums w.heap.size wr v (wf (L.drop j) zs) ∧ Below w.heap.size w wr) (fun v i _ => (intOf i + 1).toNat)
  case atStart => exact ⟨L.length, by omega, rfl, by rw [List.drop_length]; exact hN1, hb1⟩
  case round =>
    clear hN1 hb1 c01
    obtain ⟨j, hj, rfl, hN, hb⟩ := hrel
    have hwl := HWl.out j
    have hSm := hn
    unfold Sm at hSm
    obtain ⟨qv, cv, hqv, hIv, hplv⟩ := hN.ii (by omega) (HFit.out j)
    clear hSm
    generalize hW : wf (L.drop j) zs = W at *
    cases j with
    | succ t =>
      have et : ((t + 1 : Nat) : Int) - 1 = (t : Int) := by omega
      rw [et]
      obtain ⟨p1, hp1⟩ : ∃ p, L[t]? = some p := ⟨_, List.getElem?_eq_getElem (by omega)⟩
      obtain ⟨g, rfl, d0, d1, d2, d3, d4⟩ := hr.at hb hp1
      have htI : (t : Int) < (L.length : Int) := by omega
      have ht0 : (0 : Int) ≤ (t : Int) := by omega
      have hpm : p1 ∈ L := List.mem_of_getElem? hp1
      have HD : Hid (wf (L.drop t) zs = if (p1.id : Int) ∈ W then W ++ p1.nd else W) := by
        show _ = _
        rw [drop_cons hp1, ← hW]
        rfl
      have hc0 : wr.cell? ⟨x, 0, none⟩ = some (.slice (some ⟨g, 0, none⟩) L.length cq) := by rw [hb.cell (p := ⟨x, 0, none⟩) (lt_of_cell c0)]; exact c0
      have hha := rhas_ok (c := cv) hIv (p1.id : Int)
      subst hqv
      generalize hWl : W.length = wl at *
      clear et
      by_cases hin : (p1.id : Int) ∈ W
      · rw [decide_eq_true hin] at hha
        have HI := HD.out
        rw [if_pos hin] at HI
        have HI' : Hid _ := HI
        obtain ⟨v2, w2, hr2, hN2, hg2, hv2⟩ := nums_app_ii (c := p1.nc) hN ((HH.out.nee p1 hpm).1.kept hb) hb.size (by have := hnl p1 hpm; unfold Sm at hn; omega) 30
        have hb2 : Below w.heap.size w w2 := hb.grown hg2 hb.size (fun k hk => (World.ownsRow.lt hN k hk).1)
        clear HI HD hin hp1 hW
        go_wp2_with fail
        refine same_at hha ?_
        clear hha
        go_wp2_with (first | (at_builtin; refine wpList_append_run rfl _ _ _ _ rfl rfl rfl hr2 ?_; clear hr2))
        go_roundw
        case rel => exact ⟨t, by omega, by go_num, by rw [HI'.out]; exact hN2, hb2⟩
        case measure => simp [intOf]
      · rw [decide_eq_false hin] at hha
        have HI := HD.out
        rw [if_neg hin] at HI
        have HI' : Hid _ := HI
        clear HI HD hin hp1 hW
        go_wp2_with fail
        refine same_at hha ?_
        clear hha
        go_wp2_with fail
        go_roundw
        case rel => exact ⟨t, by omega, by go_num, by rw [HI'.out]; exact hN, hb⟩
        case measure => simp [intOf]
    | zero =>
      rw [List.drop_zero] at hW
      subst hqv
      have et : ((0 : Nat) : Int) - 1 = -1 := by omega
      rw [et]
      clear et
      have hc0 : wr.cell? ⟨x, 0, none⟩ = some (.slice q L.length cq) := by rw [hb.cell (p := ⟨x, 0, none⟩) (lt_of_cell c0)]; exact c0
      generalize hWl : W.length = wl at *
      go_wp2_with fail
      generalize wr = w3 at *
      go_loopw [7, 48] (fun v i wz => ∃ t : Nat, t ≤ L.length ∧ i = .int .i64 (t : Int) ∧ Nums w3.heap.size wz v (clL (L.take t) W) ∧ Below w3.heap.size w3 wz) (fun v i _ => L.length - (intOf i).toNat)
      case atStart => exact ⟨0, by omega, rfl, Nums.nil _ _, Below.refl _ _⟩
      case round =>
        obtain ⟨t, ht, rfl, hN5, hb5⟩ := hrel
        generalize hvv : u7 = v at *
        by_cases hlt2 : t < L.length
        · obtain ⟨p1, hp1⟩ : ∃ p, L[t]? = some p := ⟨_, List.getElem?_eq_getElem hlt2⟩
          obtain ⟨g, rfl, d0, d1, d2, d3, d4⟩ := hr.at (hb.trans (hb5.mono hb.size)) hp1
          have htI : (t : Int) < (L.length : Int) := by omega
          have ht0 : (0 : Int) ≤ (t : Int) := by omega
          have HT : Hid (clL (L.take (t + 1)) W = if (p1.id : Int) ∈ W then clL (L.take t) W ++ [(p1.id : Int)] else clL (L.take t) W) := by show _ = _; rw [take_snoc hp1, clL_snoc]
          have hil : (clL (L.take t) W).length ≤ 1000 := by
            unfold clL
            rw [List.length_map]
            refine Nat.le_trans (List.length_filter_le _ _) ?_
            rw [List.length_take]; omega
          obtain ⟨W1, hW1⟩ : ∃ W1, wr.alloc (.cells #[.int .i64 (p1.id : Int), .int .i64 (p1.blk : Int), .int .i64 (p1.off : Int), .slice p1.bp p1.bs.length p1.bc, .slice p1.np p1.nd.length p1.nc] 44) = W1 := ⟨_, rfl⟩
          have hbr : Below wr.heap.size wr W1 := by rw [← hW1]; exact (Below.refl _ _).alloc (Nat.le_refl _) _
          have hb1 : Below w3.heap.size w3 W1 := hb5.trans (hbr.mono hb5.size)
          have hN1 := hN5.kept hbr
          have k0 : W1.cell? ⟨wr.heap.size, 0, none⟩ = some (.int .i64 (p1.id : Int)) := by
            rw [← hW1, cell_of_row _ _ _ _ 44 _ (at_new rfl)]; rfl
          have hha := rhas_ok (c := cv) (hIv.kept hb1) (p1.id : Int)
          clear hp1 hN5 hb5
          by_cases hin : (p1.id : Int) ∈ W
          · rw [decide_eq_true hin] at hha
            have HI := HT.out
            rw [if_pos hin] at HI
            have HI' : Hid _ := HI
            clear HI HT hin
            go_wp2_with fail
            refine same_at hha ?_
            clear hha
            go_wp2_with (first
              | (at_builtin; refine wpList_append_own _ rfl _ _ 30 rfl w3.heap.size 3 i0 (.int .i64 0) 1 8 Try.underlying30 hi hz0 hz1 hz2 rfl (by decide) _ _ _ rfl (World.ownsRow.alloc hN1 _) ⟨W1.heap.size, 0, none⟩ 1 1 [.int .i64 (p1.id : Int)] rfl rfl (cell_one_new _ _ _) (by simp [Value.oneCell']) (by unfold maxLen; omega) (by omega) (by have := hb1.size; simp; omega) ?_; intro v' w5 hown hgrow _; have hown := Nums.snoc hown; obtain ⟨g', cap', rfl⟩ := Nums.succ hown))
            have hb6 := (hb1.alloc hb1.size _).grown hgrow (by have := hb1.size; simp; omega) (by intro k hk; exact (World.ownsRow.lt hN1 k hk).1)
            go_roundw
            case rel => exact ⟨t + 1, by omega, by go_num, by rw [HI'.out]; exact hown, hb6⟩
            case measure => simp [intOf]; omega
          · rw [decide_eq_false hin] at hha
            have HI := HT.out
            rw [if_neg hin] at HI
            have HI' : Hid _ := HI
            clear HI HT hin
            go_wp2_with fail
            refine same_at hha ?_
            clear hha
            go_wp2_with fail
            go_roundw
            case rel => exact ⟨t + 1, by omega, by go_num, by rw [HI'.out]; exact hN1, hb1⟩
            case measure => simp [intOf]; omega
        · obtain rfl : t = L.length := by omega
          rw [List.take_length] at hN5
          have hnt : ¬ (L.length : Int) < (L.length : Int) := by omega
          go_wp2_with fail
          go_ret
          exact ⟨_, rfl, Nums.base hN5 hb.size, hb.trans (hb5.mono hb.size)⟩
end
end Go.Proofs.Yteapkfnklbhdfaa
