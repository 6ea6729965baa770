/- F3 KZeros KConv KRSuper KDSuper KForm KRDec KGroup -/
import Derived.Test.YtomkhipdcjnkhaaGreatFb06
import Derived.Test.YtomkhipdcjnkhaaGreatFb01
import Derived.Lib.AppendZerosOnto
import Derived.Deep.MidRow
import Derived.Test.YtomkhipdcjnkhaaGreatFb03
import Derived.Laws.ResultCell

/- bollardplain.Of: a pair of volumes over an image. -/
namespace Go.Proofs.YtomkhipdcjnkhaaGreat
open Go.RowKit Go.Maps Go.MuLone
set_option linter.unusedVariables false

set_option maxRecDepth 10000 in
set_option maxHeartbeats 2000000 in
theorem of64_ok (p : Option Addr) (n c : Nat) (L : List (List Int)) (w : World) (h : IB w p n L) (h1 : 1 ≤ n) (h2 : n ≤ 2048) (hL : ∀ xs ∈ L, xs.length = 128) :
    Calls Tryz.prog 57 #[.slice p n c, .int .i64 64] w fun e w' => OfP w n L e w' := by
  obtain ⟨W1, hW1⟩ : ∃ W1, w.alloc (.cells #[.pointer none, .pointer none, .pointer none, .pointer none] 65) = W1 := ⟨_, rfl⟩
  have hb1 : Below w.heap.size w W1 := by rw [← hW1]; exact (Below.refl _ w).alloc (Nat.le_refl _) _
  have hp1 : W1.heap[w.heap.size]? = some (.cells #[.pointer none, .pointer none, .pointer none, .pointer none] 65 (0, 0)) := by rw [← hW1]; exact at_new rfl
  have hib1 : IB W1 p n L := by
    refine ⟨h.len, h.big, fun h0 => ?_⟩
    obtain ⟨b, o, e, hc⟩ := h.cells h0
    refine ⟨b, o, e, fun i x hx => ?_⟩
    obtain ⟨q, m, cc, e1, e2⟩ := hc i x hx
    exact ⟨q, m, cc, (hb1.cell (p := ⟨b, o + i, none⟩) (lt_of_cell e1)).trans e1, e2.kept hb1⟩
  have c1 := pimage_ok p n c L W1 hib1 (by omega)
  have HB1 : Hid (Below w.heap.size w W1) := hb1
  have HP1 : Hid (W1.heap[w.heap.size]? = some (.cells #[.pointer none, .pointer none, .pointer none, .pointer none] 65 (0, 0))) := hp1
  have HI : Hid (IB W1 p n L) := hib1
  clear hb1 hp1 hib1
  go_enter Tryz.func57, Tryz.ntmps57
  go_wp2_with fail
  refine Calls.mono c1 ?_
  rintro e w2 ⟨v2, vs2, rfl, hPI, hb2⟩
  obtain ⟨p2, k2, rfl, hib2⟩ := hPI.ib (by omega)
  clear c1
  dsimp only
  go_wp2_with fail
  refine Calls.mono (of_ok p2 n k2 L w2 hib2 h1 h2) ?_
  rintro e w3 ⟨hb3, hx⟩
  rcases hx with ⟨_, d, dm, df, rfl, hD⟩ | ⟨⟨xs, hm, hne⟩, _⟩
  case inr => exact absurd (hL xs hm) hne
  have hb13 : Below W1.heap.size W1 w3 := hb2.trans (hb3.mono hb2.size)
  have hib3 : IB w3 p n L := by
    have h := HI.out
    refine ⟨h.len, h.big, fun h0 => ?_⟩
    obtain ⟨b, o, e, hc⟩ := h.cells h0
    refine ⟨b, o, e, fun i x hx => ?_⟩
    obtain ⟨q, m, cc, e1, e2⟩ := hc i x hx
    exact ⟨q, m, cc, (hb13.cell (p := ⟨b, o + i, none⟩) (lt_of_cell e1)).trans e1, e2.kept hb13⟩
  dsimp only
  go_wp2_with fail
  refine Calls.mono (rof_ok p n c L w3 hib3 h1 h2) ?_
  rintro e w4 ⟨hb4, hx⟩
  rcases hx with ⟨_, xd, rfl⟩ | ⟨⟨xs, hm, hne⟩, _⟩
  case inr => exact absurd (hL xs hm) hne
  have hD4 := hD.later hb4
  have HD4 : Hid (DI w2.heap.size w4 d dm df (.slice none 0 0) ⟨n, part L n, [], 0, fun _ => 0⟩) := hD4
  have c5 := vopenF_ok hD4
  clear hD hD4 hib3
  dsimp only
  go_wp2_with fail
  refine Calls.mono c5 ?_
  rintro e w5 ⟨v, c5', s, m, mc, q1, q2, rfl, hF, hLo, hb5⟩
  clear c5
  dsimp only
  go_wp2_with fail
  refine Calls.mono (rvopen_ok xd w5) ?_
  rintro e w6 ⟨y, rfl, hb6⟩
  have hb46 : Below w4.heap.size w4 w6 := hb5.trans (hb6.mono hb5.size)
  have hb14 : Below W1.heap.size W1 w4 := hb13.trans (hb4.mono hb13.size)
  have hb16 : Below W1.heap.size W1 w6 := hb14.trans (hb46.mono hb14.size)
  have hF6 := hF.kept hb6
  have hD6 := HD4.out.later hb46
  have hp6 := (hb16.block _ (Array.getElem?_eq_some_iff.1 HP1.out).1).trans HP1.out
  have hB := HB1.out.trans (hb16.mono HB1.out.size)
  have f0 : w6.frozen? ⟨w.heap.size, 0, none⟩ = false := by simp [World.frozen?, hp6]
  have f1 : w6.frozen? ⟨w.heap.size, 1, none⟩ = false := by simp [World.frozen?, hp6]
  have f2 : w6.frozen? ⟨w.heap.size, 2, none⟩ = false := by simp [World.frozen?, hp6]
  have f3 : w6.frozen? ⟨w.heap.size, 3, none⟩ = false := by simp [World.frozen?, hp6]
  have k0 : w6.cell? ⟨w.heap.size, 0, none⟩ = some (.pointer none) := cell_of_row _ _ 0 _ _ _ hp6
  have k1 : w6.cell? ⟨w.heap.size, 1, none⟩ = some (.pointer none) := cell_of_row _ _ 1 _ _ _ hp6
  have k2 : w6.cell? ⟨w.heap.size, 2, none⟩ = some (.pointer none) := cell_of_row _ _ 2 _ _ _ hp6
  have k3 : w6.cell? ⟨w.heap.size, 3, none⟩ = some (.pointer none) := cell_of_row _ _ 3 _ _ _ hp6
  have HF : Hid (FV w6 v d c5' s m mc q1 q2 none ∧ DI w2.heap.size w6 d dm df (.slice none 0 0) ⟨n, part L n, [], 0, fun _ => 0⟩ ∧ w6.heap[w.heap.size]? = some (.cells #[.pointer none, .pointer none, .pointer none, .pointer none] 65 (0, 0)) ∧ Below w.heap.size w w6 ∧ w.heap.size < w2.heap.size ∧ w6.heap.size > w.heap.size ∧ FLo w.heap.size v c5' s m mc q1 q2) := ⟨hF6, hD6, hp6, hB, Nat.lt_of_lt_of_le (Array.getElem?_eq_some_iff.1 HP1.out).1 hb2.size, (Array.getElem?_eq_some_iff.1 hp6).1, by
    have e : w.heap.size ≤ w4.heap.size := Nat.le_trans HB1.out.size hb14.size
    obtain ⟨a1, a2, a3, a4, a5, a6, a7, a8⟩ := hLo
    exact ⟨by omega, by omega, by omega, by omega, by omega, by omega, by omega, a8⟩⟩
  clear hLo hF6 hD6 hp6 hB hb16 hb14 hb46 hF hb5 hb6 hb4 hb3 hb2 hb13 HB1 HP1 HI HD4 hPI hib2 hL h
  dsimp only
  go_wp2
  go_ret2
  obtain ⟨hF6, hD6, hp6, hB, hsz, hgt, hLo⟩ := HF.out
  obtain ⟨W7, hW7⟩ : ∃ W7, (((w6.setCell ⟨w.heap.size, 0, none⟩ (.pointer (some ⟨d, 0, none⟩))).setCell ⟨w.heap.size, 1, none⟩ (.pointer (some ⟨v, 0, none⟩))).setCell ⟨w.heap.size, 2, none⟩ (.pointer (some ⟨xd, 0, none⟩))).setCell ⟨w.heap.size, 3, none⟩ (.pointer (some ⟨y, 0, none⟩)) = W7 := ⟨_, rfl⟩
  rw [hW7]
  have so : ∀ b, b ≠ w.heap.size → W7.heap[b]? = w6.heap[b]? := fun b hb => by
    rw [← hW7]
    rw [Below.heap_setCell _ _ _ _ hb, Below.heap_setCell _ _ _ _ hb, Below.heap_setCell _ _ _ _ hb, Below.heap_setCell _ _ _ _ hb]
  have g1 := row_set hp6 0 (.pointer (some ⟨d, 0, none⟩))
  have g2 := row_set g1 1 (.pointer (some ⟨v, 0, none⟩))
  have g3 := row_set g2 2 (.pointer (some ⟨xd, 0, none⟩))
  have g4 := row_set g3 3 (.pointer (some ⟨y, 0, none⟩))
  rw [hW7] at g4
  have hb7 : Below w.heap.size w W7 := by
    rw [← hW7]
    exact (((hB.setCell (Nat.le_refl _) _).setCell (Nat.le_refl _) _).setCell (Nat.le_refl _) _).setCell (Nat.le_refl _) _
  have ne : ∀ {b : Nat} {o : Obj}, w6.heap[b]? = some o → o ≠ (.cells #[.pointer none, .pointer none, .pointer none, .pointer none] 65 (0, 0)) → W7.heap[b]? = some o := fun {b o} hh ho => by
    rw [so b (fun e => by rw [e, hp6] at hh; cases hh; exact ho rfl)]
    exact hh
  refine ⟨w.heap.size, d, v, xd, y, c5', s, m, mc, q1, q2, dm, df, w2.heap.size, rfl, g4, ⟨ne hF6.row (by simp), ne hF6.cac (by simp), ne hF6.cm (by simp), ne hF6.set (by simp), ne hF6.pm1 (by simp), ne hF6.pm2 (by simp)⟩, hLo, Nat.le_of_lt hsz, hD6.kept (fun k hk => ?_), hb7⟩
  have := (hD6.in k hk).1
  exact so k (by omega)
end Go.Proofs.YtomkhipdcjnkhaaGreat

/- append(s, make([]byte, m)...). -/
namespace Go.Proofs.YtomkhipdcjnkhaaGreat.Mk
open Go.RowKit
set_option maxRecDepth 100000

theorem zero_list (m : Nat) : (Builtin.zeroCells (Value.int .u8 0).cells m).toList = (List.replicate m (0 : Int)).map (Value.int .u8) := by
  apply List.ext_getElem
  · simp [Builtin.zeroCells, Value.cells]
  · intro i h1 h2
    simp [Builtin.zeroCells, Value.cells, Nat.mod_one]

theorem zeros_own (B : Nat) (w : World) (v : Value) (n m : Nat) (xs : List Int) (h : w.ownsRow B 5 1 v n (xs.map (Value.int .u8))) (hnm : n + m = 128) (hB : B ≤ w.heap.size) (ty : TypeId) :
    ∃ g cap w', (Builtin.append_ #[38, 3] ty #[v, .int .i64 (m : Int)]).run Tryz.prog w = .ok (.slice (some ⟨g, 0, none⟩) 128 cap) w' ∧ Own B w' g 128 cap (xs ++ List.replicate m 0) ∧ w.grownBy w' v.ownBlock := by
  obtain ⟨i0, hi, hz0, hz1, hz2⟩ := info_parts info5
  have hlen : (xs ++ List.replicate m (0 : Int)).length = 128 := by have := h.1; simp at this ⊢; omega
  have hxl : xs.length = n := by have := h.1; simpa using this
  have hmap : (xs ++ List.replicate m (0 : Int)).map (Value.int .u8) = xs.map (Value.int .u8) ++ (Builtin.zeroCells (Value.int .u8 0).cells m).toList := by rw [List.map_append, zero_list]
  rcases h.2 with ⟨rfl, h0⟩ | ⟨g, cap, cur, rfl, hbg, hg, hnc, hcm, hcs, htk⟩
  · have hm : m = 128 := by omega
    subst hm
    have hr := Lib.run_append_nil_zeros (P := Tryz.prog) w 38 3 ty 5 i0 (.int .u8 0) .i64 .i64 Tryz.underlying38 Tryz.underlying3 hi hz0 128 (by omega) (by omega) (by omega) (by rw [hz2]; omega)
    refine ⟨_, _, _, hr, ⟨by simpa using hlen, .inr ⟨_, _, _, rfl, hB, heap_alloc_new w.drew _, grownCap_ge _ _ _ _, grownCap_le_maxLen _ _ _ _ (by unfold maxLen; omega), ?_, ?_⟩⟩, ⟨rfl, rfl, rfl, by simp, fun k hk _ => Below.heap_alloc w.drew _ k hk⟩⟩
    · have := grownCap_ge w 128 0 5
      simp [size_zeroCells, Value.cells]; omega
    · rw [hmap]
      have hx0 : xs = [] := List.eq_nil_of_length_eq_zero (by omega)
      subst hx0
      simp only [Array.toList_append, List.map_nil, List.nil_append]
      exact List.take_left' (by simp [size_zeroCells, Value.cells])
  · by_cases hroom : 128 ≤ cap
    · have hw : IntKind.i64.wrap (m : Int) = m := by rw [IntKind.wrap_i64]; omega
      have hneg : ¬ ((m : Int) < 0) := by omega
      have h48 : ¬ ((281474976710656 : Int) < (m : Int)) := by omega
      have hroom' : n + m ≤ cap := by omega
      by_cases hm : m = 0
      · subst hm
        have hn : n = 128 := by omega
        subst hn
        refine ⟨g, cap, w, ?_, ?_, ⟨rfl, rfl, rfl, Nat.le_refl _, fun _ _ _ => rfl⟩⟩
        · have hw0 : IntKind.i64.wrap 0 = 0 := hw
          simp [Builtin.append_, run_underlying Tryz.underlying38, run_underlying Tryz.underlying3, sizeOf, typeInfo, hi, hz2, asInt, asIntOf, hroom, Addr.add_mid, storeCells, hw0]
        · rw [List.replicate_zero, List.append_nil]
          exact h
      · have h1 : ∀ u ∈ (Builtin.zeroCells (Value.int .u8 0).cells m).toList, u.oneCell' = true := by rw [zero_list]; exact one_cells _
        have hzl : (Builtin.zeroCells (Value.int .u8 0).cells m).toList.length = m := by rw [zero_list]; simp
        have hst := run_storeCells_at Tryz.prog g n 5 (Builtin.zeroCells (Value.int .u8 0).cells m).toList 0 cur w hg (by rw [hzl, hcs]; omega) h1
        refine ⟨g, cap, w.setRow g (cur.toList.take n ++ (Builtin.zeroCells (Value.int .u8 0).cells m).toList ++ cur.toList.drop (n + m)).toArray, ?_, ⟨by simpa using hlen, .inr ⟨g, cap, _, rfl, hbg, setRow_heap w g cur _ 5 _ hg, hroom, hcm, ?_, ?_⟩⟩, ⟨rfl, rfl, rfl, by simp, fun k _ hk => setRow_other w g k _ (fun e => hk (by simp [Value.ownBlock, e]))⟩⟩
        · rw [Nat.add_zero, hzl] at hst
          simp [Builtin.append_, run_underlying Tryz.underlying38, run_underlying Tryz.underlying3, sizeOf, typeInfo, zeroValue, hi, hz0, hz1, hz2, asInt, asIntOf, hw, hneg, h48, hm, Addr.add_mid, hst, hnm]
          intro hc
          omega
        · simp only [List.size_toArray, List.length_append, List.length_take, List.length_drop, Array.length_toList, hzl, hcs]; omega
        · rw [hmap, ← htk]
          simp only [Nat.mul_one]
          have hle : (cur.toList.take n ++ (Builtin.zeroCells (Value.int .u8 0).cells m).toList).length = 128 := by rw [List.length_append, hzl, List.length_take, Array.length_toList, hcs]; omega
          exact List.take_left' hle
    · have hm : 0 < m := by omega
      have hold : (Builtin.firstCells i0.size n (.slice (some ⟨g, 0, none⟩) n cap)).run Tryz.prog w.drew = .ok (xs.map (Value.int .u8)).toArray w.drew :=
        run_firstCells_some (P := Tryz.prog) w.drew i0.size n ⟨g, 0, none⟩ n cap _ (by rw [hz1]; simpa using h.1) (h.cells rfl)
      have hr := Lib.run_append_grow_zeros (P := Tryz.prog) w 38 3 ty 5 i0 (.int .u8 0) .i64 .i64 Tryz.underlying38 Tryz.underlying3 hi hz0 (some ⟨g, 0, none⟩) n cap (xs.map (Value.int .u8)) hold m hm (by omega) (by omega) (by omega) (by rw [hz2]; omega) (growslice_fits (by omega) (by rw [hz2]; omega))
      rw [hnm] at hr
      refine ⟨_, _, _, hr, ⟨by simpa using hlen, .inr ⟨_, _, _, rfl, hB, heap_alloc_new w.drew _, grownCap_ge _ _ _ _, grownCap_le_maxLen _ _ _ _ (by unfold maxLen; omega), ?_, ?_⟩⟩, ⟨rfl, rfl, rfl, by simp, fun k hk _ => Below.heap_alloc w.drew _ k hk⟩⟩
      · have := grownCap_ge w 128 cap 5
        simp [size_zeroCells, Value.cells]; omega
      · rw [hmap]
        simp only [Array.toList_append]
        exact List.take_left' (by simp [size_zeroCells, Value.cells]; omega)
end Go.Proofs.YtomkhipdcjnkhaaGreat.Mk

/- A text that is written out, as bytes of the call's own. -/
namespace Go.Proofs.YtomkhipdcjnkhaaGreat.Mk
open Go.RowKit
set_option maxRecDepth 100000

theorem heap_freeze_other (w : World) (b o k : Nat) (h : k ≠ b) : (w.freeze ⟨b, o, none⟩ 1).heap[k]? = w.heap[k]? := by
  unfold World.freeze
  rw [if_neg (by decide)]
  have h' : ¬ b = k := fun e => h e.symm
  simp [Array.getElem?_modify, h']
theorem heap_freeze_same (w : World) (b o : Nat) {cs : Array Value} {t : TypeId} {mk : Nat × Nat} (h : w.heap[b]? = some (.cells cs t mk)) : ∃ mk', (w.freeze ⟨b, o, none⟩ 1).heap[b]? = some (.cells cs t mk') := by
  unfold World.freeze
  rw [if_neg (by decide)]
  obtain ⟨lo, hi⟩ := mk
  simp [Array.getElem?_modify, h]
theorem size_freeze (w : World) (b o : Nat) : (w.freeze ⟨b, o, none⟩ 1).heap.size = w.heap.size := by
  unfold World.freeze
  rw [if_neg (by decide)]
  simp
theorem conv_at (W : World) (b n c : Nat) {cs : Array Value} {mk : Nat × Nat} (h : W.heap[b]? = some (.cells cs 5 mk)) : (convert 38 38 (.slice (some ⟨b, 0, none⟩) n c)).run Tryz.prog W = .ok (.slice (some ⟨b, 0, none⟩) n c) (W.freeze ⟨b, cs.size, none⟩ 1) := by
  simp [convert, run_underlying Tryz.underlying38, run_underlying Tryz.underlying5, markStringish, World.shape?, h]

/-- Block b, behind B, holds the bytes xs, and none that turn. -/
def Lit8 (B : Nat) (w : World) (b : Nat) (xs : List Int) : Prop := B ≤ b ∧ ∃ mk, w.heap[b]? = some (.cells (xs.map (Value.int .u8)).toArray 5 mk)

theorem Lit8.bi {B : Nat} {w : World} {b : Nat} {xs : List Int} (h : Lit8 B w b xs) (hx : Num.Byt xs) (hn : xs.length ≤ 140737488355328) : BI w (some ⟨b, 0, none⟩) xs.length xs := by
  obtain ⟨_, mk, hm⟩ := h
  refine ⟨rfl, hn, hx, fun _ => ⟨b, 0, rfl, fun i hi => ?_⟩⟩
  rw [Nat.zero_add]
  simp [World.cell?, hm, List.getD_eq_getElem?_getD, List.getElem?_eq_getElem hi]

/-- The world behind a text's conversion. -/
theorem conv_lit (w : World) (xs : List Int) : ∃ w', (∀ n c, (convert 38 38 (.slice (some ⟨w.heap.size, 0, none⟩) n c)).run Tryz.prog (w.alloc (.cells (xs.map (Value.int .u8)).toArray 5)) = .ok (.slice (some ⟨w.heap.size, 0, none⟩) n c) w') ∧ Lit8 w.heap.size w' w.heap.size xs ∧ Below w.heap.size w w' := by
  have h := heap_new w (.cells (xs.map (Value.int .u8)).toArray 5)
  refine ⟨_, fun n c => conv_at _ _ n c h, ⟨Nat.le_refl _, heap_freeze_same _ _ _ h⟩, ⟨rfl, rfl, rfl, by rw [size_freeze, size_alloc]; omega, fun k hk => ?_⟩⟩
  rw [heap_freeze_other _ _ _ _ (by omega), Below.heap_alloc _ _ _ hk]

theorem wpList_append_grow {w : World} {ops : Array Oper} {rest : List Oper} {o : Oper} {a : Act} {Q : Exit → Act → World → Prop} (hgd : o.guard = none) (s x : Operand)
    (ho : o.op = .call { callee := .builtin .append, args := #[s, x], argTypes := #[38, 3] }) (b n m : Nat) (xs : List Int) (hs : a.eval s = .slice (some ⟨b, 0, none⟩) n n) (hx : a.eval x = .int .i64 (m : Int)) (hbi : BI w (some ⟨b, 0, none⟩) n xs) (hnm : n + m = 128) (hm : 0 < m)
    (h : ∀ g cap w', Own w.heap.size w' g 128 cap (xs ++ zers m) → Below w.heap.size w w' → wpList Tryz.prog ops Q rest (a.put o.dst (.slice (some ⟨g, 0, none⟩) 128 cap)) w') : wpList Tryz.prog ops Q (o :: rest) a w := by
  obtain ⟨i0, hi, hz0, hz1, hz2⟩ := info_parts info5
  have hxl := hbi.len
  have hlen : (xs ++ zers m).length = 128 := by simp [zers_len]; omega
  have hmap : (xs ++ zers m).map (Value.int .u8) = xs.map (Value.int .u8) ++ (Builtin.zeroCells (Value.int .u8 0).cells m).toList := by rw [List.map_append, zero_list]; rfl
  have hold : (Builtin.firstCells i0.size n (.slice (some ⟨b, 0, none⟩) n n)).run Tryz.prog w.drew = .ok (xs.map (Value.int .u8)).toArray w.drew :=
    run_firstCells_some (P := Tryz.prog) w.drew i0.size n ⟨b, 0, none⟩ n n _ (by rw [hz1]; simpa using hxl) (by
      intro j v hj
      by_cases h0 : 0 < n
      · obtain ⟨ad, e, hc⟩ := (hbi.kept (below_drewN (Below.refl _ _) 1)).src h0
        cases e
        exact hc j v hj
      · have : xs = [] := List.eq_nil_of_length_eq_zero (by omega)
        subst this
        simp at hj)
  have hr := Lib.run_append_grow_zeros (P := Tryz.prog) w 38 3 o.type 5 i0 (.int .u8 0) .i64 .i64 Tryz.underlying38 Tryz.underlying3 hi hz0 (some ⟨b, 0, none⟩) n n (xs.map (Value.int .u8)) hold m hm (by omega) (by omega) (by omega) (by rw [hz2]; omega) (growslice_fits (by omega) (by rw [hz2]; omega))
  rw [hnm] at hr
  refine wpList_plain hgd fun _ hK => ?_
  unfold Oper.wp execOp
  simp only [ho, resolve, invoke, builtin, Sem.run_bind, Sem.run_pure, Result.andThen_ok, List.map_toArray, List.map_cons, List.map_nil, hs, hx, hr]
  refine hK _ _ (h _ _ _ ⟨by simpa using hlen, .inr ⟨_, _, _, rfl, Nat.le_refl _, heap_alloc_new w.drew _, grownCap_ge _ _ _ _, grownCap_le_maxLen _ _ _ _ (by unfold maxLen; omega), ?_, ?_⟩⟩ ⟨rfl, rfl, rfl, by simp, fun k hk => Below.heap_alloc w.drew _ k hk⟩)
  · have := grownCap_ge w 128 n 5
    simp [size_zeroCells, Value.cells]; omega
  · rw [hmap]
    simp only [Array.toList_append]
    exact List.take_left' (by simp [size_zeroCells, Value.cells]; omega)
end Go.Proofs.YtomkhipdcjnkhaaGreat.Mk

/- The document's superblocks as bytes. -/
namespace Go.Proofs.YtomkhipdcjnkhaaGreat.Mk
open Go.RowKit
set_option maxRecDepth 100000

theorem bollZ : ([98, 111, 108, 108] : List Int) ++ zers 124 = splice (zers 128) 0 [98, 111, 108, 108] := by decide

set_option maxRecDepth 10000 in
set_option maxHeartbeats 1000000 in
theorem rencodeSuper_yes (G B I M : Int) (h : SMay G B I M) (w : World) : Calls Tryz.prog 206 #[superV G B I M] w fun e w' => ∃ g cap, e = .returned (.tuple #[.slice (some ⟨g, 0, none⟩) 128 cap, .int .i64 0]) ∧ Own w.heap.size w' g 128 cap (superS G B I M) ∧ Below w.heap.size w w' := by
  have HB := grew_alloc w (superO G B I M)
  have hm := rmay_ok G B I
  rw [decide_eq_true h.1] at hm
  have hh := h
  unfold SMay Gm.May at hh
  obtain ⟨c0, c1, c2, c3⟩ := super_cells w G B I M
  go_enter Tryz.func206, Tryz.ntmps206
  go_wp2_with (first
    | (go_at_call 305; refine grew_at (hm _) ?_; intro wn hbn; have HB := grew_trans HB hbn; have c0 := cell_kept c0 hbn; have c1 := cell_kept c1 hbn; have c2 := cell_kept c2 hbn; have c3 := cell_kept c3 hbn; obtain ⟨wl, hcv, hl, hbn⟩ := conv_lit wn [98, 111, 108, 108]; have hcv : (convert 38 38 (.slice (some ⟨wn.heap.size, 0, none⟩) 4 4)).run Tryz.prog (wn.alloc (.cells #[.int .u8 98, .int .u8 111, .int .u8 108, .int .u8 108] 5)) = .ok (.slice (some ⟨wn.heap.size, 0, none⟩) 4 4) wl := hcv 4 4; have HB := grew_trans HB hbn; have c0 := cell_kept c0 hbn; have c1 := cell_kept c1 hbn; have c2 := cell_kept c2 hbn; have c3 := cell_kept c3 hbn; have hbl := hl.bi (Num.byt_of_wf (by decide)) (by decide))
    | (at_builtin; refine wpList_append_grow rfl _ _ rfl wn.heap.size 4 124 [98, 111, 108, 108] rfl rfl hbl rfl (by decide) ?_))
  intro g cap w1 ho hbn
  have HB := grew_trans HB hbn; have c0 := cell_kept c0 hbn; have c1 := cell_kept c1 hbn; have c2 := cell_kept c2 hbn; have c3 := cell_kept c3 hbn
  rw [show (98 :: 111 :: 108 :: 108 :: zers 124 : List Int) = splice (zers 128) 0 [98, 111, 108, 108] from bollZ] at ho
  have hy : Num.Byt (splice (zers 128) 0 [98, 111, 108, 108]) := splice_byt (zers_byt _) (Num.byt_of_wf (by decide)) 0
  go_wp2_with (first
    | (go_at_call_of 210 G; refine Calls.mono (rnumber_ok _ 128 _ _ 4 1 G _ (ho.bi (by omega) hy) (by omega) (by omega) (by omega) (by omega) (by omega)) ?_; rintro e wm ⟨g, cap, rfl, ho, hbn⟩; have hy := Num.putTo_byt hy 4 G 1; have HB := grew_trans HB hbn; have c0 := cell_kept c0 hbn; have c1 := cell_kept c1 hbn; have c2 := cell_kept c2 hbn; have c3 := cell_kept c3 hbn)
    | (go_at_call_of 210 I; refine Calls.mono (rnumber_ok _ 128 _ _ 6 1 I _ (ho.bi (by omega) hy) (by omega) (by omega) (by omega) (by omega) (by omega)) ?_; rintro e wm ⟨g, cap, rfl, ho, hbn⟩; have hy := Num.putTo_byt hy 6 I 1; have HB := grew_trans HB hbn; have c0 := cell_kept c0 hbn; have c1 := cell_kept c1 hbn; have c2 := cell_kept c2 hbn; have c3 := cell_kept c3 hbn)
    | (go_at_call_of 210 M; refine Calls.mono (rnumber_ok _ 128 _ _ 8 4 M _ (ho.bi (by omega) hy) (by omega) (by omega) (by omega) (by omega) (by omega)) ?_; rintro e wm ⟨g, cap, rfl, ho, hbn⟩; have hy := Num.putTo_byt hy 8 M 4; have HB := grew_trans HB hbn; have c0 := cell_kept c0 hbn; have c1 := cell_kept c1 hbn; have c2 := cell_kept c2 hbn; have c3 := cell_kept c3 hbn)
    | (go_at_call 210; refine Calls.mono (rnumber_ok _ 128 _ _ 5 1 (B - 1) _ (ho.bi (by omega) hy) (by omega) (by omega) (by omega) (by omega) (by omega)) ?_; rintro e wm ⟨g, cap, rfl, ho, hbn⟩; have hy := Num.putTo_byt hy 5 (B - 1) 1; have HB := grew_trans HB hbn; have c0 := cell_kept c0 hbn; have c1 := cell_kept c1 hbn; have c2 := cell_kept c2 hbn; have c3 := cell_kept c3 hbn)
    | (go_at_call 211; refine Calls.mono (rseal_ok _ 128 _ _ _ (ho.bi (by omega) hy) ho.room.1 (by omega)) ?_; rintro e wz ⟨g2, cap2, rfl, ho2, hb⟩))
  go_ret2
  refine ⟨g2, cap2, rfl, ?_, HB.trans (hb.mono HB.size)⟩
  have ho2 := ho2.base HB.size
  unfold superS sealL superL
  simp only [Num.putTo_length, splice_len128]
  exact ho2
end Go.Proofs.YtomkhipdcjnkhaaGreat.Mk

/- Superblocks out of bytes, by the program. -/
namespace Go.Proofs.YtomkhipdcjnkhaaGreat.Mk
open Go.RowKit
set_option maxRecDepth 100000

theorem numD_drop (xs : List Int) (a : Nat) (k : Nat) : ∀ i, Num.numD (xs.drop a) i k = Num.numD xs (a + i) k := by
  induction k with
  | zero => intro i; rfl
  | succ k ih =>
    intro i
    show (xs.drop a).getD i 0 + 256 * Num.numD (xs.drop a) (i + 1) k = xs.getD (a + i) 0 + 256 * Num.numD xs (a + i + 1) k
    rw [ih, getD_drop', Nat.add_assoc]

theorem bi_ne_size {w : World} {b o n : Nat} {xs : List Int} (h : BI w (some ⟨b, o, none⟩) n xs) {g : Nat} {cs : Array Value} {t : TypeId} {mk : Nat × Nat} (hg : w.heap[g]? = some (.cells cs t mk)) (hn : cs.size < n) : b ≠ g := by
  rintro rfl
  obtain ⟨b', o', e, hc⟩ := h.cells (by omega)
  cases e
  have := hc (n - 1) (by omega)
  simp only [World.cell?, hg] at this
  rw [Array.getElem?_eq_none (by omega)] at this
  cases this

theorem grown_cells {w w' : World} {rb g : Nat} {o : Obj} (hb : w.grownBy w' (some rb)) (hg : w.heap[g]? = some o) (hne : g ≠ rb) : w'.heap[g]? = some o := by
  rw [hb.block g (Array.getElem?_eq_some_iff.1 hg).1 (by simpa using hne)]; exact hg

theorem super_no (a b c d : Int) : ∀ (x : Int) (j : Nat), (#[.int .i64 a, .int .i64 b, .int .i64 c, .int .i64 d] : Array Value)[j]? ≠ some (Value.int .u8 x) := by
  intro x j
  rcases j with _ | _ | _ | _ | j <;> simp

theorem info25 : (Tryz.prog.info? 294).map (·.size) = some 4 := by kernel_rfl

/-- What the bytes of a superblock say. -/
def rG (xs : List Int) : Int := Num.numD xs 4 1
def rB (xs : List Int) : Int := Num.numD xs 5 1 + 1
def rI (xs : List Int) : Int := Num.numD xs 6 1
def rM (xs : List Int) : Int := Num.numD xs 8 4

end Go.Proofs.YtomkhipdcjnkhaaGreat.Mk

/- Superblocks out of bytes: whether they are in form. -/
namespace Go.Proofs.YtomkhipdcjnkhaaGreat.Mk
open Go.RowKit
set_option maxRecDepth 100000
set_option linter.unusedVariables false

theorem results_cell_tmp_row {P : Program} {fn : Func} {p u : Tmp} {ty : TypeId} (h : fn.results = #[.cell p ty, .tmp u]) (tmps : Array Value) (w : World) (g : Nat) (t : TypeId) (cs : Array Value) (fr : Nat × Nat) (d : TypeDesc)
    (hp : tmps.getD p undef = .pointer (some ⟨g, 0, none⟩)) (hg : w.heap[g]? = some (.cells cs t fr))
    (hu : P.underlying ty = some d) (hd : (match d with | .struct _ | .array _ _ => true | _ => false) = true) (hi : (P.info? ty).map (·.size) = some cs.size) :
    (results fn tmps).run P w = .ok (.tuple #[.agg cs, tmps.getD u undef]) w := by
  rw [results_cell_tmp h, hp]
  simp [asAddr, run_loadVar_row w g t ty cs fr d hg hu hd hi]

/-- The bytes are those that are written for what they say. -/
def SGood (xs : List Int) (a b c d : Int) : Prop := SMay a b c d ∧ superS a b c d = xs
instance (xs : List Int) (a b c d : Int) : Decidable (SGood xs a b c d) := by unfold SGood; infer_instance

theorem superS_len (a b c d : Int) : (superS a b c d).length = 128 := by
  unfold superS sealL superL
  simp only [Num.putTo_length, splice_len128]
theorem boll_byt : Num.Byt (splice (zers 128) 0 [98, 111, 108, 108]) := splice_byt (zers_byt _) (Num.byt_of_wf (by decide)) 0
theorem superS_byt (a b c d : Int) : Num.Byt (superS a b c d) := by
  unfold superS sealL superL
  exact Num.putTo_byt (Num.putTo_byt (Num.putTo_byt (Num.putTo_byt (Num.putTo_byt boll_byt _ _ _) _ _ _) _ _ _) _ _ _) _ _ _

theorem super_one (a b c d : Int) : (#[.int .i64 a, .int .i64 b, .int .i64 c, .int .i64 d] : Array Value).all (·.oneCell') = true := by simp [Value.oneCell']

/-- The error that bytes tell, read as a superblock. -/
def decE (n : Nat) (xs : List Int) : Int := if n ≠ 128 then 6 else if ¬ xs.take 4 = [98, 111, 108, 108] then 31 else if ¬ Num.numD xs 124 4 = Num.sum xs 124 then 30 else if SGood xs (rG xs) (rB xs) (rI xs) (rM xs) then 0 else 6
def decV (n : Nat) (xs : List Int) : Value := if decE n xs = 0 then superV (rG xs) (rB xs) (rI xs) (rM xs) else superV 0 0 0 0

end Go.Proofs.YtomkhipdcjnkhaaGreat.Mk

/- The document's superblocks out of bytes. -/
namespace Go.Proofs.YtomkhipdcjnkhaaGreat.Mk
open Go.RowKit
set_option maxRecDepth 100000
set_option linter.unusedVariables false

theorem gE_ok (n a k : Nat) (h1 : 1 ≤ k) (h4 : k ≤ 4) (h2 : a + k ≤ n) : Num.gE n (a : Int) (k : Int) = 0 := by
  unfold Num.gE
  rw [if_neg (by omega), if_neg (by omega)]

theorem boll_str {xs : List Int} (h : Num.Byt xs) : ((strOfNums xs).toList == [98, 111, 108, 108]) = (xs == [98, 111, 108, 108]) := by
  have := str_beq h (ys := [98, 111, 108, 108]) (Num.byt_of_wf (by decide))
  rw [show (strOfNums [98, 111, 108, 108]).toList = [98, 111, 108, 108] from Lib.strOfNums_toList _] at this
  exact this

end Go.Proofs.YtomkhipdcjnkhaaGreat.Mk

/- Headers as bytes, by the program. -/
namespace Go.Proofs.YtomkhipdcjnkhaaGreat.Mk
open Go.RowKit
set_option maxRecDepth 100000
set_option linter.unusedVariables false

/-- A header's cells: its number, and 40 bytes. -/
def groupA (N : Int) (ys : List Int) : Array Value := (Value.int .i64 N :: ys.map (Value.int .u8)).toArray
abbrev groupV (N : Int) (ys : List Int) : Value := .agg (groupA N ys)
abbrev groupO (N : Int) (ys : List Int) : Obj := .cells (groupA N ys) 70
theorem groupA_size (N : Int) (ys : List Int) (h : ys.length = 40) : (groupA N ys).size = 41 := by simp [groupA, h]
theorem groupA_zero (N : Int) (ys : List Int) : (groupA N ys)[0]? = some (.int .i64 N) := by simp [groupA]
theorem groupA_succ (N : Int) (ys : List Int) (i : Nat) (h : i < ys.length) : (groupA N ys)[i + 1]? = some (.int .u8 (ys.getD i 0)) := by
  simp [groupA, List.getD_eq_getElem?_getD, List.getElem?_eq_getElem h]

/-- The bytes i up to i + k of a header's, as they lie in its block. -/
theorem group_bi {w : World} {b : Nat} {N : Int} {ys : List Int} {mk : Nat × Nat} (h : w.heap[b]? = some (.cells (groupA N ys) 70 mk)) (hy : Num.Byt ys) (i k : Nat) (hk : i + k ≤ ys.length) (hl : ys.length = 40) : BI w (some ⟨b, i + 1, none⟩) k ((ys.drop i).take k) := by
  refine ⟨by simp; omega, by omega, byt_take (byt_drop hy _) _, fun _ => ⟨b, i + 1, rfl, fun j hj => ?_⟩⟩
  rw [getD_take _ _ _ hj, getD_drop']
  have := groupA_succ N ys (i + j) (by omega)
  simp [World.cell?, h, show i + 1 + j = i + j + 1 by omega, this]

def GMay (N : Int) : Prop := 0 ≤ N ∧ N ≤ 7
instance (N : Int) : Decidable (GMay N) := by unfold GMay; infer_instance
/-- A header's bytes. -/
def groupL (N : Int) (ys : List Int) : List Int := splice (splice (Num.putTo (splice (zers 128) 0 [104, 100]) 2 N 1) 4 (ys.take 8)) 12 (ys.drop 8)

theorem encodeGroup_no (N : Int) (ys : List Int) (hl : ys.length = 40) (h : ¬ GMay N) (w : World) : Calls Tryz.prog 129 #[groupV N ys] w fun e w' => e = .returned (.tuple #[.slice none 0 0, .int .i64 1]) ∧ Below w.heap.size w w' := by
  have HB := grew_alloc w (groupO N ys)
  have c0 : (w.alloc (groupO N ys)).cell? ⟨w.heap.size, 0, none⟩ = some (.int .i64 N) := cell_row (heap_new w (groupO N ys)) 0 _ (groupA_zero N ys)
  have hw := fun w => within_ok N 0 7 w
  rw [show decide (0 ≤ N ∧ N ≤ 7) = false from decide_eq_false h] at hw
  unfold GMay at h
  go_enter Tryz.func129, Tryz.ntmps129
  go_wp2_with (first | (go_at_call 229; refine same_at (hw _) ?_))
  go_ret2
  exact ⟨rfl, HB⟩

set_option maxHeartbeats 1000000 in
theorem encodeGroup_yes (N : Int) (ys : List Int) (hl : ys.length = 40) (hy : Num.Byt ys) (h : GMay N) (w : World) : Calls Tryz.prog 129 #[groupV N ys] w fun e w' => ∃ g, e = .returned (.tuple #[.slice (some ⟨g, 0, none⟩) 128 128, .int .i64 0]) ∧ Own w.heap.size w' g 128 128 (groupL N ys) ∧ Below w.heap.size w w' := by
  have HB := grew_alloc w (groupO N ys)
  have hx0 := heap_new w (groupO N ys)
  have c0 : (w.alloc (groupO N ys)).cell? ⟨w.heap.size, 0, none⟩ = some (.int .i64 N) := cell_row hx0 0 _ (groupA_zero N ys)
  have hw := fun w => within_ok N 0 7 w
  rw [show decide (0 ≤ N ∧ N ≤ 7) = true from decide_eq_true h] at hw
  unfold GMay at h
  have hsz : w.heap.size + 1 ≤ (w.alloc (groupO N ys)).heap.size := by rw [size_alloc]; omega
  go_enter Tryz.func129, Tryz.ntmps129
  go_wp2_with (first | (go_at_call 229; refine same_at (hw _) ?_))
  generalize w.alloc (groupO N ys) = w0 at *
  refine Calls.mono (newPage_ok 128 (by omega) (w.heap.size + 1) _ hsz) ?_
  rintro e w1 ⟨pb, g, rfl, pg, bn⟩
  have c0 := cell_under c0 bn (by omega)
  have hx0 : w1.heap[w.heap.size]? = some (groupO N ys) := by rw [bn.block _ (by omega)]; exact hx0
  have HB := HB.trans (bn.mono (by omega))
  clear bn
  go_wp2_with (first
    | (go_at_call 231; refine Calls.mono (ptext_ok pg _ (by decide) (by decide)) ?_; rintro e wm ⟨rfl, pg, bn⟩; have c0 := cell_under c0 bn (by omega); have hx0 : wm.heap[w.heap.size]? = some (groupO N ys) := (by rw [bn.block _ (by omega)]; exact hx0); have HB := HB.trans (bn.mono (by omega)); clear bn; have pg : Pg (w.heap.size + 1) wm pb g 128 2 (splice (zers 128) 0 [104, 100]) := pg)
    | (go_at_call 232; refine Calls.mono (pnum_ok pg 1 N (by omega) (by omega) (by decide) (by omega) (by omega)) ?_; rintro e wm ⟨rfl, pg, bn⟩; have hx0 : wm.heap[w.heap.size]? = some (groupO N ys) := (by rw [bn.block _ (by omega)]; exact hx0); have HB := HB.trans (bn.mono (by omega)); clear bn)
    | (go_at_call 233; refine Calls.mono (pskip_ok pg 1 (by omega) (by decide)) ?_; rintro e wm ⟨rfl, pg, bn⟩; have hx0 : wm.heap[w.heap.size]? = some (groupO N ys) := (by rw [bn.block _ (by omega)]; exact hx0); have HB := HB.trans (bn.mono (by omega)); clear bn))
  have hb1 : BI wm (some ⟨w.heap.size, 1, none⟩) 8 (ys.take 8) := group_bi hx0 hy 0 8 (by omega) hl
  refine Calls.mono (prow_ok pg 8 8 _ _ hb1 (by omega) (by decide) (by intro b o e; cases e; omega)) ?_
  rintro e wm ⟨rfl, pg, bn⟩
  have hx0 : wm.heap[w.heap.size]? = some (groupO N ys) := (by rw [bn.block _ (by omega)]; exact hx0); have HB := HB.trans (bn.mono (by omega)); clear bn
  go_wp2_with fail
  have hb2 : BI wm (some ⟨w.heap.size, 9, none⟩) 32 (ys.drop 8) := by
    have := group_bi hx0 hy 8 32 (by omega) hl
    rwa [List.take_of_length_le (by simp; omega)] at this
  refine Calls.mono (prow_ok pg 32 32 _ _ hb2 (by omega) (by decide) (by intro b o e; cases e; omega)) ?_
  rintro e wm ⟨rfl, pg, bn⟩
  have hx0 : wm.heap[w.heap.size]? = some (groupO N ys) := (by rw [bn.block _ (by omega)]; exact hx0); have HB := HB.trans (bn.mono (by omega)); clear bn
  have d0 := pg.c0
  go_wp2
  go_ret2
  exact ⟨g, rfl, own_of_row (Nat.le_trans (Nat.le_succ _) pg.log) (by decide) pg.len pg.row, HB⟩

theorem groupL_len (N : Int) (ys : List Int) (hl : ys.length = 40) : (groupL N ys).length = 128 := by
  unfold groupL
  have h1 : (Num.putTo (splice (zers 128) 0 [104, 100]) 2 N 1).length = 128 := by rw [Num.putTo_length, splice_len _ _ _ (by rw [zers_len]; decide), zers_len]
  have h2 : (splice (Num.putTo (splice (zers 128) 0 [104, 100]) 2 N 1) 4 (ys.take 8)).length = 128 := by rw [splice_len _ _ _ (by simp [h1]; omega), h1]
  rw [splice_len _ _ _ (by simp [h2]; omega), h2]
theorem groupL_byt (N : Int) (ys : List Int) (hy : Num.Byt ys) : Num.Byt (groupL N ys) :=
  splice_byt (splice_byt (Num.putTo_byt (splice_byt (zers_byt _) (Num.byt_of_wf (by decide)) 0) _ _ _) (byt_take hy _) 4) (byt_drop hy _) 12

theorem getD_append (a b : List Int) (i : Nat) : (a ++ b).getD i 0 = if i < a.length then a.getD i 0 else b.getD (i - a.length) 0 := by
  simp only [List.getD_eq_getElem?_getD]
  split
  · rename_i h; rw [List.getElem?_append_left h]
  · rename_i h; rw [List.getElem?_append_right (by omega)]
theorem zers_getD (n i : Nat) : (zers n).getD i 0 = 0 := by
  unfold zers
  rw [List.getD_eq_getElem?_getD, List.getElem?_replicate]
  split <;> rfl

/-- The same, piece behind piece. -/
theorem groupL_eq (N : Int) (ys : List Int) (hl : ys.length = 40) (h : GMay N) : groupL N ys = [104, 100, N, 0] ++ ys ++ zers 84 := by
  unfold GMay at h
  have h0 : (splice (zers 128) 0 [104, 100]).length = 128 := by rw [splice_len _ _ _ (by rw [zers_len]; decide), zers_len]
  have h1 : (Num.putTo (splice (zers 128) 0 [104, 100]) 2 N 1).length = 128 := by rw [Num.putTo_length, h0]
  have h8 : (ys.take 8).length = 8 := by simp; omega
  have h32 : (ys.drop 8).length = 32 := by simp; omega
  have h2 : (splice (Num.putTo (splice (zers 128) 0 [104, 100]) 2 N 1) 4 (ys.take 8)).length = 128 := by rw [splice_len _ _ _ (by omega), h1]
  apply ext_getD
  · rw [groupL_len N ys hl]; simp [zers_len]; omega
  intro i _
  unfold groupL
  rw [getD_splice _ _ _ (by omega), getD_splice _ _ _ (by omega), getD_append, getD_append, h8, h32]
  simp only [List.length_append, List.length_cons, List.length_nil, hl]
  by_cases c1 : i < 4
  · rw [if_pos (by omega), if_pos c1, if_pos (by omega), if_pos (by omega)]
    by_cases c2 : i = 2
    · subst c2
      have := Num.putTo_in (splice (zers 128) 0 [104, 100]) 2 N 1 (by omega) 0 (by omega)
      rw [Nat.add_zero] at this
      rw [this]
      simp
      omega
    · rw [Num.putTo_out _ _ _ _ _ (by omega), getD_splice _ _ _ (by rw [zers_len]; decide), if_neg (by omega), zers_getD]
      rcases (by omega : i = 0 ∨ i = 1 ∨ i = 3) with rfl | rfl | rfl <;> rfl
  · by_cases c2 : i < 12
    · rw [if_pos c2, if_neg c1, if_pos (by omega), if_pos (by omega), if_neg (by omega), getD_take _ _ _ (by omega)]
    · rw [if_neg c2]
      by_cases c3 : i < 44
      · rw [if_pos (by omega), if_pos (by omega), if_neg (by omega), getD_drop']
        congr 1
        omega
      · rw [if_neg (by omega), if_neg (by omega), if_neg (by omega), if_neg (by omega), zers_getD, Num.putTo_out _ _ _ _ _ (by omega), getD_splice _ _ _ (by rw [zers_len]; decide), if_neg (by omega), if_neg (by simp; omega), zers_getD]
end Go.Proofs.YtomkhipdcjnkhaaGreat.Mk
