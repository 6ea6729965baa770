/- LayoutBack: structures are read as they were written. -/
import Derived.Test.YtkmijjipnepnoaaBackM
import Derived.Test.YtkmijjipnepnoaaEntriesW
import Derived.Test.YtkmijjipnepnoaaDinodesW
import Derived.Deep.DeepCutAuto
namespace Go.Proofs.Ytkmijjipnepnoaa
open Go.RowKit
set_option linter.unusedVariables false

theorem super_pair (G B I M : Int) : ∃ (er : Int) (n : Nat) (zs : List Int) (er2 G2 B2 I2 M2 : Int),
    (∀ w, Calls Try.prog 9 #[superV G B I M] w fun e w' => ∃ p c, e = .returned (.tuple #[.slice p n c, .int .i64 er]) ∧ n ≤ c ∧ BI w' p n zs ∧ Below w.heap.size w w') ∧
    (∀ w, Calls Try.prog 10 #[superV G B I M] w fun e w' => ∃ p c, e = .returned (.tuple #[.slice p n c, .int .i64 er]) ∧ Below w.heap.size w w') ∧
    (∀ w p c, n ≤ c → BI w p n zs → Calls Try.prog 12 #[.slice p n c] w fun e w' => e = .returned (.tuple #[superV G2 B2 I2 M2, .int .i64 er2]) ∧ Below w.heap.size w w') ∧
    (er = 0 ∧ er2 = 0 ∧ G2 = G ∧ B2 = B ∧ I2 = I ∧ M2 = M ∨ er = 1) := by
  by_cases h : SMay G B I M
  · refine ⟨0, 128, superS G B I M, 0, G, B, I, M, fun w => ?_, fun w => ?_, fun w p c hc hb => ?_, Or.inl ⟨rfl, rfl, rfl, rfl, rfl, rfl⟩⟩
    · exact (encodeSuper_yes G B I M h w).mono fun e w' ⟨g, cap, he, ho, hb⟩ => ⟨_, cap, he, ho.room.1, ho.bi (by omega) (superS_byt _ _ _ _), hb⟩
    · exact (rencodeSuper_yes G B I M h w).mono fun e w' ⟨g, cap, he, ho, hb⟩ => ⟨_, cap, he, hb⟩
    · have := decodeSuper_ok p 128 c _ w hb hc
      rwa [(super_back h).1, (super_back h).2] at this
  · have hE : decE 0 [] = 6 := by unfold decE; rw [if_pos (by omega)]
    have hV : decV 0 [] = superV 0 0 0 0 := by unfold decV; rw [hE, if_neg (by decide)]
    refine ⟨1, 0, [], 6, 0, 0, 0, 0, fun w => ?_, fun w => ?_, fun w p c hc hb => ?_, Or.inr rfl⟩
    · exact (encodeSuper_no G B I M h w).mono fun e w' ⟨he, hb⟩ => ⟨_, 0, he, Nat.le_refl _, BI.none _ _, hb⟩
    · exact (rencodeSuper_no G B I M h w).mono fun e w' ⟨he, hb⟩ => ⟨_, 0, he, hb⟩
    · have := decodeSuper_ok p 0 c _ w hb hc
      rwa [hE, hV] at this
theorem group_pair (N : Int) (ys : List Int) (hl : ys.length = 40) (hy : Num.Byt ys) : ∃ (er : Int) (n : Nat) (zs : List Int) (er2 N2 : Int) (y2 : List Int), y2.length = 40 ∧ Num.Byt y2 ∧
    (∀ w, Calls Try.prog 15 #[groupV N ys] w fun e w' => ∃ p c, e = .returned (.tuple #[.slice p n c, .int .i64 er]) ∧ n ≤ c ∧ BI w' p n zs ∧ Below w.heap.size w w') ∧
    (∀ w p c, n ≤ c → BI w p n zs → Calls Try.prog 17 #[.slice p n c] w fun e w' => e = .returned (.tuple #[groupV N2 y2, .int .i64 er2]) ∧ Below w.heap.size w w') ∧
    (er = 0 ∧ er2 = 0 ∧ N2 = N ∧ y2 = ys ∧ GMay N ∨ er = 1) := by
  by_cases h : GMay N
  · refine ⟨0, 128, groupL N ys, 0, N, ys, hl, hy, fun w => ?_, fun w p c hc hb => ?_, Or.inl ⟨rfl, rfl, rfl, rfl, h⟩⟩
    · exact (encodeGroup_yes1 N ys hl hy h w).mono fun e w' ⟨g, cap, he, ho, hb⟩ => ⟨_, cap, he, ho.room.1, ho.bi (by omega) (groupL_byt _ _ hy), hb⟩
    · have := decodeGroup_ok p 128 c _ w hb hc
      obtain ⟨k1, k2, k3⟩ := group_back hl h
      rwa [k1, k2, k3] at this
  · have hE : gdE 0 [] = 6 := by unfold gdE; rw [if_pos (by omega)]
    have hN : gdN 0 [] = 0 := by unfold gdN; rw [hE, if_neg (by decide)]
    have hY : gdY 0 [] = zers 40 := by unfold gdY; rw [hE, if_neg (by decide)]
    refine ⟨1, 0, [], 6, 0, zers 40, zers_len 40, zers_byt 40, fun w => ?_, fun w p c hc hb => ?_, Or.inr rfl⟩
    · exact (encodeGroup_no N ys hl h w).mono fun e w' ⟨he, hb⟩ => ⟨_, 0, he, Nat.le_refl _, BI.none _ _, hb⟩
    · have := decodeGroup_ok p 0 c _ w hb hc
      rwa [hE, hN, hY] at this
theorem dinode_pair (m l s a b c d i j : Int) : ∃ (er : Int) (n : Nat) (zs : List Int) (er2 m2 l2 s2 a2 b2 c2 d2 i2 j2 : Int),
    (∀ w, Calls Try.prog 19 #[dinV m l s a b c d i j] w fun e w' => ∃ p c, e = .returned (.tuple #[.slice p n c, .int .i64 er]) ∧ n ≤ c ∧ BI w' p n zs ∧ Below w.heap.size w w') ∧
    (∀ w p c, n ≤ c → BI w p n zs → Calls Try.prog 21 #[.slice p n c] w fun e w' => e = .returned (.tuple #[dinV m2 l2 s2 a2 b2 c2 d2 i2 j2, .int .i64 er2]) ∧ Below w.heap.size w w') ∧
    (er = 0 ∧ er2 = 0 ∧ m2 = m ∧ l2 = l ∧ s2 = s ∧ a2 = a ∧ b2 = b ∧ c2 = c ∧ d2 = d ∧ i2 = i ∧ j2 = j ∨ er = 1) := by
  by_cases h : DMay m l s a b c d i j
  · refine ⟨0, 32, dinB m l s a b c d i j, 0, m, l, s, a, b, c, d, i, j, fun w => ?_, fun w p c hc hb => ?_, Or.inl ⟨rfl, rfl, rfl, rfl, rfl, rfl, rfl, rfl, rfl, rfl, rfl⟩⟩
    · exact (encodeDinode_yes m l s a b c d i j h w).mono fun e w' ⟨g, cap, he, ho, hb⟩ => ⟨_, cap, he, ho.room.1, ho.bi (by omega) (dinB_byt _ _ _ _ _ _ _ _ _), hb⟩
    · have := decodeDinode_ok p 32 c _ w hb hc
      rwa [(dinode_back h).1, (dinode_back h).2] at this
  · have hE : ddE 0 [] = 6 := by unfold ddE; rw [if_pos (by omega)]
    have hV : ddV 0 [] = dinV 0 0 0 0 0 0 0 0 0 := by unfold ddV; rw [hE, if_neg (by decide)]
    refine ⟨1, 0, [], 6, 0, 0, 0, 0, 0, 0, 0, 0, 0, fun w => ?_, fun w p c hc hb => ?_, Or.inr rfl⟩
    · exact (encodeDinode_no m l s a b c d i j h w).mono fun e w' ⟨he, hb⟩ => ⟨_, 0, he, Nat.le_refl _, BI.none _ _, hb⟩
    · have := decodeDinode_ok p 0 c _ w hb hc
      rwa [hE, hV] at this
theorem entry_pair (N : Int) (s : ByteArray) (hs : s.size ≤ 140737488355328) : ∃ (er : Int) (n : Nat) (zs : List Int) (er2 N2 : Int) (s2 : ByteArray),
    (∀ w, Calls Try.prog 23 #[entV N s] w fun e w' => ∃ p c, e = .returned (.tuple #[.slice p n c, .int .i64 er]) ∧ BI w' p n zs ∧ Below w.heap.size w w') ∧
    (∀ w p c, BI w p n zs → Calls Try.prog 25 #[.slice p n c] w fun e w' => e = .returned (.tuple #[entV N2 s2, .int .i64 er2]) ∧ Below w.heap.size w w') ∧
    (er = 0 ∧ er2 = 0 ∧ N2 = N ∧ s2 = s ∨ er = 1) := by
  by_cases h : EMay N s
  · refine ⟨0, 16, entL N s, 0, N, s, fun w => encodeEntry_yes N s h w, fun w p c hb => ?_, Or.inl ⟨rfl, rfl, rfl, rfl⟩⟩
    have := decodeEntry_ok p 16 c _ w hb
    rwa [(entry_back h).1, (entry_back h).2] at this
  · have hE : deE 0 [] = 6 := by unfold deE; rw [if_pos (by omega)]
    have hV : deV 0 [] = entV 0 ent0 := by unfold deV; rw [hE, if_neg (by decide)]
    refine ⟨1, 0, [], 6, 0, ent0, fun w => ?_, fun w p c hb => ?_, Or.inr rfl⟩
    · exact (encodeEntry_no N s hs h w).mono fun e w' ⟨he, hb⟩ => ⟨_, 0, he, BI.none _ _, hb⟩
    · have := decodeEntry_ok p 0 c _ w hb
      rwa [hE, hV] at this

theorem wpList_neq_wanted {P : Program} {ops : Array Oper} {rest : List Oper} {o : Oper} {a : Act} {w : World} {Q : Exit → Act → World → Prop} (hwant : Region.wanted o (yielded ops a.tmps) = true) (t : TypeId) (x y : Operand) (ho : o.op = .binOp .neq t x y t)
    (A B : Array Value) (hx : a.eval x = .agg A) (hy : a.eval y = .agg B) (hg : P.eqGuardType P.depth t = false) (r : Bool) (hr : (Op.equalIn 10000 t (.agg A) (.agg B)).run P w = .ok r w)
    (h : wpList P ops Q rest (a.put o.dst (.bool (!r))) w) : wpList P ops Q (o :: rest) a w :=
  wpList_step fun K hK => by
    rw [if_pos hwant]
    unfold Oper.wp
    have h1 := run_eqGuard_agg (P := P) (w := w) BinOp.neq t x y A B hg
    have h2 := run_neq_struct (P := P) (w := w) t A B
    rw [hr] at h2
    simp [execOp, ho, hx, hy, h1, h2, Result.andThen]
    exact hK _ _ h

/-- The four structures as they came in. -/
structure Bk (w0 w : World) (So Go_ Do Eo : Obj) : Prop where
  s : w.heap[w0.heap.size]? = some So
  g : w.heap[w0.heap.size + 1]? = some Go_
  d : w.heap[w0.heap.size + 2]? = some Do
  e : w.heap[w0.heap.size + 3]? = some Eo
  b : Below w0.heap.size w0 w
theorem Bk.kept {w0 w w' : World} {So Go_ Do Eo : Obj} (h : Bk w0 w So Go_ Do Eo) (hb : Below w.heap.size w w') : Bk w0 w' So Go_ Do Eo :=
  ⟨(hb.block _ (Array.getElem?_eq_some_iff.1 h.s).1).trans h.s, (hb.block _ (Array.getElem?_eq_some_iff.1 h.g).1).trans h.g, (hb.block _ (Array.getElem?_eq_some_iff.1 h.d).1).trans h.d, (hb.block _ (Array.getElem?_eq_some_iff.1 h.e).1).trans h.e, grew_trans h.b hb⟩
theorem bk_mk (w : World) (So Go_ Do Eo : Obj) : Bk w ((((w.alloc So).alloc Go_).alloc Do).alloc Eo) So Go_ Do Eo := by
  have h1 := heap_new w So
  have h2 := heap_new (w.alloc So) Go_
  have h3 := heap_new ((w.alloc So).alloc Go_) Do
  have h4 := heap_new (((w.alloc So).alloc Go_).alloc Do) Eo
  simp only [size_alloc] at h2 h3 h4
  refine ⟨?_, ?_, ?_, ?_, grew_trans (grew_trans (grew_trans (grew_alloc _ _) (grew_alloc _ _)) (grew_alloc _ _)) (grew_alloc _ _)⟩
  · rw [Below.heap_alloc _ _ _ (by simp only [size_alloc]; omega), Below.heap_alloc _ _ _ (by simp only [size_alloc]; omega), Below.heap_alloc _ _ _ (by simp only [size_alloc]; omega)]; exact h1
  · rw [Below.heap_alloc _ _ _ (by simp only [size_alloc]; omega), Below.heap_alloc _ _ _ (by simp only [size_alloc]; omega)]; exact h2
  · rw [Below.heap_alloc _ _ _ (by simp only [size_alloc]; omega)]; exact h3
  · exact h4

set_option maxRecDepth 10000 in
set_option maxHeartbeats 2000000 in
theorem layoutBack_walk (G B I M : Int) (N : Int) (ys : List Int) (hl : ys.length = 40) (hy : Num.Byt ys) (m l s a b c d i j : Int) (E : Int) (t : ByteArray) (ht : t.size ≤ 140737488355328) (w : World) :
    Calls Try.prog 8 #[superV G B I M, groupV N ys, dinV m l s a b c d i j, entV E t] w fun e w' => e = .returned (.bool true) ∧ Below w.heap.size w w' := by
  have hk := bk_mk w (superO G B I M) (groupO N ys) (dinO m l s a b c d i j) (entO E t)
  obtain ⟨er, n, zs, er2, G2, B2, I2, M2, s1, s2, s3, hs⟩ := super_pair G B I M
  have hks := hk.s
  go_enter Try.func8, Try.ntmps8
  go_upto_region 5 with (first
    | (refine wpList_load_row rfl 25 (.tmp 4) rfl w.heap.size rfl 25 _ (0, 0) _ hks Try.underlying25 rfl (by kernel_rfl) ?_)
    | (go_at_call 9; refine Calls.mono (s1 _) ?_; rintro e w1 ⟨p1, q1, rfl, hq1, b1, hb⟩; have hk := hk.kept hb; have hks := hk.s; clear hb)
    | (go_at_call 10; refine Calls.mono (s2 _) ?_; rintro e w2 ⟨p2, q2, rfl, hb⟩; have hk := hk.kept hb; have b1 := b1.kept hb; clear hb))
  go_upto_region 6 with (first
    | (go_at_call 12; refine grew_at (s3 _ _ _ hq1 b1) ?_; intro w3 hb; have hk := hk.kept hb; clear hb))
  have hb := grew_alloc w3 (superO G2 B2 I2 M2)
  have hx := heap_new w3 (superO G2 B2 I2 M2)
  have hk := hk.kept hb
  generalize w3.alloc (superO G2 B2 I2 M2) = w4 at *
  generalize w3.heap.size = x1 at *
  have hks := hk.s
  clear hb s1 s2 s3 b1 hq1
  go_cut [52] (fun v wx => v = .bool false ∧ wx = w4)
  case first =>
    rcases hs with ⟨rfl, rfl, rfl, rfl, rfl, rfl⟩ | rfl
    · go_wp2_with (first
        | (refine wpList_load_wanted (by rfl) 25 (.tmp 13) rfl x1 rfl 25 _ (0, 0) _ hx Try.underlying25 rfl info25 ?_)
        | (refine wpList_load_wanted (by rfl) 25 (.tmp 4) rfl w.heap.size rfl 25 _ (0, 0) _ hks Try.underlying25 rfl info25 ?_))
      go_meet
      case rel => exact ⟨rfl, rfl⟩
    · go_wp2_with fail
      go_meet
      case rel => exact ⟨rfl, rfl⟩
  case rest =>
    obtain ⟨rfl, rfl⟩ := hcut
    clear hs hx hks
    obtain ⟨er, n, zs, er2, N2, y2, hl2, hy2, s1, s3, hs⟩ := group_pair N ys hl hy
    have hkg := hk.g
    have hin := info38 N ys hl
    have hi2 := info38 N2 y2 hl2
    have ho2 := group_one N2 y2
    have hs2 := (groupA_size 0 (zers 40) (zers_len 40)).trans (groupA_size N2 y2 hl2).symm
    rw [zero38] at hs2
    go_upto_region 10 with (first
      | (refine wpList_load_row rfl 38 (.tmp 5) rfl (w.heap.size + 1) rfl 38 _ (0, 0) _ hkg Try.underlying38 rfl hin ?_)
      | (go_at_call 15; refine Calls.mono (s1 _) ?_; rintro e w1 ⟨p1, q1, rfl, hq1, b1, hb⟩; have hk := hk.kept hb; clear hb)
      | (go_at_call 17; refine grew_at (s3 _ _ _ hq1 b1) ?_; intro w3 hb; have hk := hk.kept hb; clear hb)
      | (refine wpList_store_row rfl 38 (.tmp 16) (.tmp 61) rfl w3.heap.size _ rfl rfl 38 _ (heap_new w3 _) hi2 hs2 ho2 ?_))
    rw [← zero38]
    obtain ⟨hb, hx⟩ := made38 w3 (groupA N2 y2)
    have hk := hk.kept hb
    generalize (w3.alloc (groupO 0 (zers 40))).setRow w3.heap.size (groupA N2 y2) = w4 at *
    generalize w3.heap.size = x2 at *
    have hkg := hk.g
    clear hb s1 s3 b1 hq1
    go_cut [73] (fun v wx => v = .bool false ∧ wx = w4)
    case first =>
      rcases hs with ⟨rfl, rfl, rfl, rfl, hN⟩ | rfl
      · have heq := eq_group N2 (by unfold GMay at hN; omega) y2 hl2 hy2
        go_wp2_with (first
          | (refine wpList_load_wanted (by rfl) 38 (.tmp 16) rfl x2 rfl 38 _ (0, 0) _ hx Try.underlying38 rfl hi2 ?_)
          | (refine wpList_load_wanted (by rfl) 38 (.tmp 5) rfl (w.heap.size + 1) rfl 38 _ (0, 0) _ hkg Try.underlying38 rfl hi2 ?_)
          | (refine wpList_neq_wanted (by rfl) 38 (.tmp 69) (.tmp 70) rfl (groupA N2 y2) (groupA N2 y2) rfl rfl guard38 true (heq _) ?_))
        go_meet
        case rel => exact ⟨rfl, rfl⟩
      · go_wp2_with fail
        go_meet
        case rel => exact ⟨rfl, rfl⟩
    case rest =>
      obtain ⟨rfl, rfl⟩ := hcut
      clear hs hx hkg hin hi2 ho2 hs2
      obtain ⟨er, n, zs, er2, m2, l2, s2, a2, b2, c2, d2, i2, j2, s1, s3, hs⟩ := dinode_pair m l s a b c d i j
      have hkd := hk.d
      go_upto_region 14 with (first
        | (refine wpList_load_row rfl 45 (.tmp 6) rfl (w.heap.size + 2) rfl 45 _ (0, 0) _ hkd Try.underlying45 rfl info45 ?_)
        | (go_at_call 19; refine Calls.mono (s1 _) ?_; rintro e w1 ⟨p1, q1, rfl, hq1, b1, hb⟩; have hk := hk.kept hb; clear hb)
        | (go_at_call 21; refine grew_at (s3 _ _ _ hq1 b1) ?_; intro w3 hb; have hk := hk.kept hb; clear hb))
      have hb := grew_alloc w3 (dinO m2 l2 s2 a2 b2 c2 d2 i2 j2)
      have hx := heap_new w3 (dinO m2 l2 s2 a2 b2 c2 d2 i2 j2)
      have hk := hk.kept hb
      generalize w3.alloc (dinO m2 l2 s2 a2 b2 c2 d2 i2 j2) = w4 at *
      generalize w3.heap.size = x3 at *
      have hkd := hk.d
      clear hb s1 s3 b1 hq1
      go_cut [94] (fun v wx => v = .bool false ∧ wx = w4)
      case first =>
        rcases hs with ⟨rfl, rfl, rfl, rfl, rfl, rfl, rfl, rfl, rfl, rfl, rfl⟩ | rfl
        · have heq := eq45_same m2 l2 s2 a2 b2 c2 d2 i2 j2
          go_wp2_with (first
            | (refine wpList_load_wanted (by rfl) 45 (.tmp 19) rfl x3 rfl 45 _ (0, 0) _ hx Try.underlying45 rfl info45 ?_)
            | (refine wpList_load_wanted (by rfl) 45 (.tmp 6) rfl (w.heap.size + 2) rfl 45 _ (0, 0) _ hkd Try.underlying45 rfl info45 ?_)
            | (refine wpList_neq_wanted (by rfl) 45 (.tmp 90) (.tmp 91) rfl _ _ rfl rfl guard45 true (heq _) ?_))
          go_meet
          case rel => exact ⟨rfl, rfl⟩
        · go_wp2_with fail
          go_meet
          case rel => exact ⟨rfl, rfl⟩
      case rest =>
        obtain ⟨rfl, rfl⟩ := hcut
        clear hs hx hkd
        obtain ⟨er, n, zs, er2, E2, t2, s1, s3, hs⟩ := entry_pair E t ht
        have hke := hk.e
        go_upto_region 18 with (first
          | (refine wpList_load_row rfl 51 (.tmp 7) rfl (w.heap.size + 3) rfl 51 _ (0, 0) _ hke Try.underlying51 rfl info51 ?_)
          | (go_at_call 23; refine Calls.mono (s1 _) ?_; rintro e w1 ⟨p1, q1, rfl, b1, hb⟩; have hk := hk.kept hb; clear hb)
          | (go_at_call 25; refine grew_at (s3 _ _ _ b1) ?_; intro w3 hb; have hk := hk.kept hb; clear hb))
        have hb := grew_alloc w3 (entO E2 t2)
        have hx := heap_new w3 (entO E2 t2)
        have hk := hk.kept hb
        generalize w3.alloc (entO E2 t2) = w4 at *
        generalize w3.heap.size = x4 at *
        have hke := hk.e
        have hkb := hk.b
        clear hb s1 s3 b1
        rcases hs with ⟨rfl, rfl, rfl, rfl⟩ | rfl
        · go_wp2_with (first
            | (refine wpList_load_wanted (by rfl) 51 (.tmp 22) rfl x4 rfl 51 _ (0, 0) _ hx Try.underlying51 rfl info51 ?_)
            | (refine wpList_load_wanted (by rfl) 51 (.tmp 7) rfl (w.heap.size + 3) rfl 51 _ (0, 0) _ hke Try.underlying51 rfl info51 ?_))
          go_ret
          exact ⟨rfl, hkb⟩
        · go_wp2_with fail
          go_ret
          exact ⟨rfl, hkb⟩
end Go.Proofs.Ytkmijjipnepnoaa
