/- GeomApart: the walk. -/
import Derived.Test.YtkmijjipnepnoabApartM
namespace Go.Proofs.Ytkmijjipnepnoab
open Go.RowKit Go.Maps
set_option linter.unusedVariables false

/-- A geometry that may be, of natural numbers. -/
structure Nm (G B I : Nat) : Prop where
  may : Gm.May (G : Int) (B : Int) (I : Int)
  g : 1 ≤ G ∧ G ≤ 8
  b : 8 ≤ B ∧ B ≤ 256
  i : 4 ≤ I ∧ I ≤ 64
  f : I % 4 = 0
  r : 3 + I / 4 ≤ B

theorem nm_of {G B I : Int} (h : Gm.May G B I) : ∃ g b i : Nat, G = g ∧ B = b ∧ I = i ∧ Nm g b i := by
  obtain ⟨hG, hB, hI, h4, h3⟩ := h.all
  refine ⟨G.toNat, B.toNat, I.toNat, by omega, by omega, by omega, ⟨?_, by omega, by omega, by omega, by omega, by omega⟩⟩
  rw [Int.toNat_of_nonneg (by omega), Int.toNat_of_nonneg (by omega), Int.toNat_of_nonneg (by omega)]
  exact h

section
variable {G B I : Nat} (h : Nm G B I)
include h
theorem Nm.blocks (w : World) : Calls Try.prog 18 #[geomV G B I] w fun e w' => e = .returned (.int .i64 ((G * B : Nat) : Int)) ∧ Below w.heap.size w w' := by
  have := blocks_ok (G : Int) (B : Int) (I : Int) w
  rwa [Gm.num_pos h.may, ← Int.natCast_mul] at this
theorem Nm.inodes (w : World) : Calls Try.prog 20 #[geomV G B I] w fun e w' => e = .returned (.int .i64 ((G * I : Nat) : Int)) ∧ Below w.heap.size w w' := by
  have := inodes_ok (G : Int) (B : Int) (I : Int) w
  rwa [Gm.num_pos h.may, ← Int.natCast_mul] at this
theorem Nm.gi {n : Nat} (hn : n < G) : Gm.In (G : Int) (B : Int) (I : Int) (n : Int) := ⟨h.may, by omega, by omega⟩
theorem Nm.super {n : Nat} (hn : n < G) (w : World) : Calls Try.prog 24 #[geomV G B I, .int .i64 (n : Int)] w fun e w' => e = .returned (.tuple #[.int .i64 ((n * B : Nat) : Int), .bool true]) ∧ Below w.heap.size w w' := by
  have := super_in (h.gi hn) w
  rwa [← Int.natCast_mul] at this
theorem Nm.header {n : Nat} (hn : n < G) (w : World) : Calls Try.prog 26 #[geomV G B I, .int .i64 (n : Int)] w fun e w' => e = .returned (.tuple #[.int .i64 ((n * B + 1 : Nat) : Int), .bool true]) ∧ Below w.heap.size w w' := by
  have := header_in (h.gi hn) w
  rwa [← Int.natCast_mul, show ((n * B : Nat) : Int) + 1 = ((n * B + 1 : Nat) : Int) by omega] at this
theorem Nm.data {n : Nat} (hn : n < G) (w : World) : Calls Try.prog 28 #[geomV G B I, .int .i64 (n : Int)] w fun e w' => e = .returned (.tuple #[.int .i64 ((n * B + (2 + I / 4) : Nat) : Int), .int .i64 ((B - (2 + I / 4) : Nat) : Int), .bool true]) ∧ Below w.heap.size w w' := by
  have := data_in (h.gi hn) w
  have hr := h.r
  rwa [← Int.natCast_mul, show ((n * B : Nat) : Int) + (2 + (I : Int) / 4) = ((n * B + (2 + I / 4) : Nat) : Int) by omega, show (B : Int) - (2 + (I : Int) / 4) = ((B - (2 + I / 4) : Nat) : Int) by omega] at this
theorem Nm.inode {n : Nat} (hn : n < G * I) (w : World) : Calls Try.prog 30 #[geomV G B I, .int .i64 (n : Int)] w fun e w' => e = .returned (.tuple #[.int .i64 ((Ap.blk B I n : Nat) : Int), .int .i64 ((Ap.off I n : Nat) : Int), .bool true]) ∧ Below w.heap.size w w' := by
  have ho : Gm.Of (G : Int) (B : Int) (I : Int) (I : Int) (n : Int) := ⟨h.may, by omega, by rw [← Int.natCast_mul]; omega⟩
  have := inode_in ho w
  have e1 : (n : Int) / (I : Int) * (B : Int) + 2 + (n : Int) % (I : Int) / 4 = ((Ap.blk B I n : Nat) : Int) := by
    unfold Ap.blk
    rw [← Int.natCast_ediv, ← Int.natCast_mul, ← Int.natCast_emod]
    omega
  have e2 : (n : Int) % (I : Int) % 4 * 32 = ((Ap.off I n : Nat) : Int) := by
    unfold Ap.off
    rw [← Int.natCast_emod]
    omega
  rwa [e1, e2] at this
theorem Nm.isData {n : Nat} (hn : n < G * B) : ∃ b : Bool, (∀ w, Calls Try.prog 36 #[geomV G B I, .int .i64 (n : Int)] w fun e w' => e = .returned (.bool b) ∧ Below w.heap.size w w') ∧ (∀ w, Calls Try.prog 37 #[geomV G B I, .int .i64 (n : Int)] w fun e w' => e = .returned (.bool b) ∧ Below w.heap.size w w') := by
  have ho : Gm.Of (G : Int) (B : Int) (I : Int) (B : Int) (n : Int) := ⟨h.may, by omega, by rw [← Int.natCast_mul]; omega⟩
  exact ⟨_, fun w => isData_in ho w, fun w => risData_in ho w⟩
end

theorem step_ex (m : Nat) (p : Nat → Prop) : ((∃ i, i < m ∧ p i) ∨ p m) ↔ ∃ i, i < m + 1 ∧ p i := by
  constructor
  · rintro (⟨i, hi, h⟩ | h)
    · exact ⟨i, by omega, h⟩
    · exact ⟨m, by omega, h⟩
  · rintro ⟨i, hi, h⟩
    by_cases e : i = m
    · subst e; exact .inr h
    · exact .inl ⟨i, by omega, h⟩
theorem grew_al (w : World) (o : Obj) : Below w.heap.size w (w.alloc o) := (Below.refl _ _).alloc (Nat.le_refl _) _

set_option maxRecDepth 10000 in
theorem apart_not (G B I : Int) (h : ¬ Gm.May G B I) (w : World) : Calls Try.prog 7 #[geomV G B I] w fun e w' => e = .returned (.bool true) ∧ Below w.heap.size w w' := by
  have HB : Below w.heap.size w (w.alloc (geomO G B I)) := (Below.refl _ _).alloc (Nat.le_refl _) _
  obtain ⟨c0, c1, c2⟩ := box_cells w G B I
  go_enter Try.func7, Try.ntmps7
  go_wp2_with (first | (go_at_call 17; refine grew_at (rcan_not h _) ?_; intro wn hbn; have HB := grew_trans HB hbn; have c0 := cell_kept c0 hbn; have c1 := cell_kept c1 hbn; have c2 := cell_kept c2 hbn) | (go_at_call 16; refine grew_at (can_not h _) ?_; intro wn hbn; have HB := grew_trans HB hbn))
  go_ret
  exact ⟨rfl, HB⟩

/-- What the calls answer, in numbers that have names. -/
structure Ws (G B I N c K M : Nat) : Prop where
  nm : Nm G B I
  hN : N = G * B
  hc : c = 2 + I / 4
  hK : K = B - c
  bl : ∀ w, Calls Try.prog 18 #[geomV G B I] w fun e w' => e = .returned (.int .i64 (N : Int)) ∧ Below w.heap.size w w'
  su : ∀ n a, n < G → a = n * B → ∀ w, Calls Try.prog 24 #[geomV G B I, .int .i64 (n : Int)] w fun e w' => e = .returned (.tuple #[.int .i64 (a : Int), .bool true]) ∧ Below w.heap.size w w'
  he : ∀ n a, n < G → a = n * B → ∀ w, Calls Try.prog 26 #[geomV G B I, .int .i64 (n : Int)] w fun e w' => e = .returned (.tuple #[.int .i64 ((a + 1 : Nat) : Int), .bool true]) ∧ Below w.heap.size w w'
  da : ∀ n a, n < G → a = n * B → ∀ w, Calls Try.prog 28 #[geomV G B I, .int .i64 (n : Int)] w fun e w' => e = .returned (.tuple #[.int .i64 ((a + c : Nat) : Int), .int .i64 (K : Int), .bool true]) ∧ Below w.heap.size w w'

  hM : M = G * I
  no : ∀ w, Calls Try.prog 20 #[geomV G B I] w fun e w' => e = .returned (.int .i64 (M : Int)) ∧ Below w.heap.size w w'
  pl : ∀ n b o, n < M → b = Ap.blk B I n → o = Ap.off I n → ∀ w, Calls Try.prog 30 #[geomV G B I, .int .i64 (n : Int)] w fun e w' => e = .returned (.tuple #[.int .i64 (b : Int), .int .i64 (o : Int), .bool true]) ∧ Below w.heap.size w w'
  isD : ∀ n, n < N → ∃ b : Bool, (∀ w, Calls Try.prog 36 #[geomV G B I, .int .i64 (n : Int)] w fun e w' => e = .returned (.bool b) ∧ Below w.heap.size w w') ∧ (∀ w, Calls Try.prog 37 #[geomV G B I, .int .i64 (n : Int)] w fun e w' => e = .returned (.bool b) ∧ Below w.heap.size w w')

theorem ws_of {G B I : Nat} (h : Nm G B I) : Ws G B I (G * B) (2 + I / 4) (B - (2 + I / 4)) (G * I) :=
  ⟨h, rfl, rfl, rfl, h.blocks, fun n a hn ha => by subst ha; exact h.super hn, fun n a hn ha => by subst ha; exact h.header hn, fun n a hn ha => by subst ha; exact h.data hn, rfl, h.inodes, fun n b o hn hb ho => by subst hb ho; exact h.inode hn, fun n hn => h.isData hn⟩

set_option maxRecDepth 10000 in
set_option maxHeartbeats 2000000 in
theorem apart_may (G B I N c K M : Nat) (H : Ws G B I N c K M) (w : World) : Calls Try.prog 7 #[geomV G B I] w fun e w' => e = .returned (.bool true) ∧ Below w.heap.size w w' := by
  have HB : Below w.heap.size w (w.alloc (geomO G B I)) := (Below.refl _ _).alloc (Nat.le_refl _) _
  obtain ⟨c0, c1, c2⟩ := box_cells w G B I
  obtain ⟨i0, hi, hz0, hz1, hz2⟩ := info_parts info3
  have hg := H.nm.g
  have hb := H.nm.b
  have hi' := H.nm.i
  have hN : N ≤ 2048 := by rw [H.hN]; exact Nat.mul_le_mul (show G ≤ 8 by omega) (show B ≤ 256 by omega)
  have hNI : (G : Int) * (B : Int) = (N : Int) := by rw [H.hN, Int.natCast_mul]
  have hc0 : 2 ≤ c := by rw [H.hc]; omega
  have hcB : c < B := by have := H.nm.r; rw [H.hc]; omega
  have hKB : K + c = B := by rw [H.hK]; omega
  have cb := H.bl
  have hmm := @run_makeMap Try.prog
  go_enter Try.func7, Try.ntmps7
  go_wp2_with (first
    | (go_at_call 17; refine grew_at (rcan_may H.nm.may _) ?_; intro wn hbn; have HB := grew_trans HB hbn; have c0 := cell_kept c0 hbn; have c1 := cell_kept c1 hbn; have c2 := cell_kept c2 hbn)
    | (go_at_call 18; refine grew_at (cb _) ?_; intro wn hbn; have HB := grew_trans HB hbn; have c0 := cell_kept c0 hbn; have c1 := cell_kept c1 hbn; have c2 := cell_kept c2 hbn)
    | (at_make; refine wpList_make_full _ rfl _ _ 50 rfl wn.heap.size 3 i0 (.int .i64 0) 1 Try.underlying50 hi hz0 hz1 .i64 .i64 _ _ N rfl rfl rfl rfl (by rw [hz2]; omega) (by unfold maxLen; omega) (Nat.le_refl _) ?_; intro w1 hown1 hgrow1; have hb1 := (Below.refl wn.heap.size wn).grown hgrow1 (Nat.le_refl _) (by intro k hk; cases hk); have A1 : AS w G B I N w1 wn.heap.size (fun _ => False) := ⟨cell_kept c0 hb1, cell_kept c1 hb1, cell_kept c2 hb1, kinds_made hown1, grew_trans HB hb1, lt_of_cell c0⟩; have c0 := A1.b0; have c1 := A1.b1; have c2 := A1.b2))
  have hk0 := A1.lo
  generalize wn.heap.size = kb at A1 hk0 ⊢
  clear hown1 hgrow1 hb1 HB c0 c1 c2 hi hz0 hz1 hz2 cb
  go_loopw [40] (fun i wr => ∃ n : Nat, n ≤ G ∧ i = .int .i64 (n : Int) ∧ AS w G B I N wr kb (Ap.Base B c n)) (fun i _ => G - (intOf i).toNat)
  case atStart => exact ⟨0, by omega, rfl, A1.congr (fun j _ => ⟨False.elim, fun h => absurd h.1 (Nat.not_lt_zero _)⟩)⟩
  case round =>
    clear A1
    obtain ⟨n, hn, rfl, A⟩ := hrel
    have c0 := A.b0
    have c1 := A.b1
    have c2 := A.b2
    by_cases hlt : n < G
    · have hI1 : (n : Int) < (G : Int) := by omega
      obtain ⟨a, ha⟩ : ∃ a, a = n * B := ⟨_, rfl⟩
      have haN : a + B ≤ N := by
        have : (n + 1) * B ≤ G * B := Nat.mul_le_mul_right B hlt
        rw [Nat.succ_mul] at this
        rw [H.hN, ha]; omega
      have q1 := H.su n a hlt ha
      have q2 := H.he n a hlt ha
      have q3 := H.da n a hlt ha
      have HA : Hid (a = n * B) := ha
      clear ha
      go_wp2_with (first
        | (go_at_call 24; refine grew_at (q1 _) ?_; intro wn hbn; have A := A.grew hbn; have c0 := A.b0; have c1 := A.b1; have c2 := A.b2)
        | (go_at_call 26; refine grew_at (q2 _) ?_; intro wn hbn; have A := A.grew hbn; have c0 := A.b0; have c1 := A.b1; have c2 := A.b2)
        | (go_at_call 28; refine grew_at (q3 _) ?_; intro wn hbn; have A := A.grew hbn; have k1 := A.k.cell a (by omega); have f1 := A.k.fz a; rw [cnt_no (Ap.not_base (by omega) (by rw [HA.out]; omega))] at k1; have A := A.bump a (by omega); have k2 := A.k.cell (a + 1) (by omega); have f2 := A.k.fz (a + 1); rw [cnt_no (by rintro (h | h); exact Ap.not_base (by omega) (by rw [HA.out]; omega) h; omega)] at k2; have A := A.bump (a + 1) (by omega)))
      clear c0 c1 c2 k1 k2 f1 f2 q1 q2 q3
      go_loopw [75] (fun i wr => ∃ t : Nat, t ≤ K ∧ i = .int .i64 (t : Int) ∧ AS w G B I N wr kb (fun j => ((Ap.Base B c n j ∨ j = a) ∨ j = a + 1) ∨ ∃ s, s < t ∧ j = a + c + s)) (fun i _ => K - (intOf i).toNat)
      case atStart => exact ⟨0, by omega, rfl, A.congr (fun j _ => ⟨.inl, by rintro (h | ⟨s, hs, _⟩); exact h; omega⟩)⟩
      case round =>
        clear A
        obtain ⟨t, ht, rfl, A⟩ := hrel
        by_cases htl : t < K
        · have hI2 : (t : Int) < (K : Int) := by omega
          have k1 := A.k.cell (a + c + t) (by omega)
          have f1 := A.k.fz (a + c + t)
          rw [cnt_no (by
            rintro (((h | h) | h) | ⟨s, hs, h⟩)
            · exact Ap.not_base (by omega) (by rw [HA.out]; omega) h
            · omega
            · omega
            · omega)] at k1
          have A := A.bump (a + c + t) (by omega)
          go_wp2
          go_roundw
          case rel =>
            refine ⟨t + 1, by omega, by go_num, A.congr (fun j _ => ⟨?_, ?_⟩)⟩
            · rintro ((h | ⟨s, hs, h⟩) | h)
              · exact .inl h
              · exact .inr ⟨s, by omega, h⟩
              · exact .inr ⟨t, by omega, h⟩
            · rintro (h | ⟨s, hs, h⟩)
              · exact .inl (.inl h)
              · by_cases e : s = t
                · exact .inr (by rw [h, e])
                · exact .inl (.inr ⟨s, by omega, h⟩)
          case measure => simp [intOf]; omega
        · obtain rfl : t = K := by omega
          go_wp2
          go_roundw
          case rel =>
            refine ⟨n + 1, by omega, by go_num, A.congr (fun j _ => ?_)⟩
            have := Ap.base_step (n := n) (c := c) (by omega) hc0 hcB j
            rw [← HA.out] at this
            rw [← this]
            rw [show B - c = t by omega]
          case measure => simp [intOf]; omega
    · have e : G = n := by omega
      subst e
      have A1 := (A.grew (grew_al wr (.map #[] 0))).grew (grew_al (wr.alloc (.map #[] 0)) (.map #[] 0))
      have hkl := A.k.lt
      have T1 : AT w G B I N ((wr.alloc (.map #[] 0)).alloc (.map #[] 0)) kb wr.heap.size (wr.heap.size + 1) 0 (Ap.Base B c G) (fun _ => False) (fun _ => False) := by
        have s1 := set_made wr 53
        have s2 := set_made (wr.alloc (.map #[] 0)) 3
        rw [size_alloc] at s2
        exact ⟨A1, s1.kept (Below.heap_alloc _ _ _ (by rw [size_alloc]; omega)), ⟨0, Nat.le_refl _, s2⟩, hkl, by omega⟩
      clear c0 c1 c2 A
      have c0 := A1.b0
      have c1 := A1.b1
      have c2 := A1.b2
      have cn := H.no
      clear A1
      have hM : M ≤ 512 := by rw [H.hM]; exact Nat.mul_le_mul (show G ≤ 8 by omega) (show I ≤ 64 by omega)
      go_wp2_with (first
        | (go_at_call 20; refine grew_at (cn _) ?_; intro w2 hb2; have T2 := T1.grew hb2))
      generalize wr.heap.size = sb at T2 hkl ⊢
      clear c0 c1 c2 cn T1
      have hf := H.nm.f
      have hr := H.nm.r
      have HM : Hid (M = G * I) := H.hM
      have HC : Hid (c = 2 + I / 4) := H.hc
      have HN : Hid (N = G * B) := H.hN
      go_loopw [92] (fun i wr => ∃ m : Nat, m ≤ M ∧ i = .int .i64 (m : Int) ∧ AT w G B I N wr kb sb (sb + 1) m (fun j => Ap.Base B c G j ∨ ∃ i, i < m ∧ j = Ap.blk B I i) (fun v => ∃ i, i < m ∧ v = pairV (Ap.blk B I i) (Ap.off I i)) (fun v => ∃ i, i < m ∧ v = .int .i64 ((Ap.blk B I i : Nat) : Int))) (fun i _ => M - (intOf i).toNat)
      case atStart =>
        refine ⟨0, by omega, rfl, T2.congr (fun j _ => ⟨.inl, ?_⟩) (by funext v; simp) (by funext v; simp)⟩
        rintro (h | ⟨i, hi, _⟩)
        · exact h
        · omega
      case round =>
        clear T2
        obtain ⟨m, hm, rfl, T⟩ := hrel
        have c0 := T.a.b0
        have c1 := T.a.b1
        have c2 := T.a.b2
        by_cases hml : m < M
        · have hI3 : (m : Int) < (M : Int) := by omega
          obtain ⟨b, hbE⟩ : ∃ b, b = Ap.blk B I m := ⟨_, rfl⟩
          obtain ⟨o, hoE⟩ : ∃ o, o = Ap.off I m := ⟨_, rfl⟩
          have hmG : m < G * I := by rw [← HM.out]; exact hml
          have hbN : b < N := by
            rw [hbE, HN.out]
            exact (Ap.blk_lt (by omega) hf hr hmG).2.2
          have ho1 : o < 128 ∧ o % 32 = 0 := by
            rw [hoE]
            unfold Ap.off
            have := Nat.mod_lt (m % I) (show 0 < 4 by omega)
            omega
          have hoI : (o : Int) < 128 := by omega
          have hoM : (o : Int) % 32 = 0 := by omega
          have hnP : ¬ ∃ i, i < m ∧ pairV b o = pairV (Ap.blk B I i) (Ap.off I i) := by
            rintro ⟨i, hi, he⟩
            simp at he
            have := Ap.place_inj (by omega) hf hr hmG (by omega) (by rw [← hbE]; omega) (by rw [← hoE]; omega) (i := m) (j := i)
            omega
          have q1 := H.pl m b o hml hbE hoE
          go_wp2_with fail
          refine grew_at (q1 _) ?_
          intro w3 hb3
          have T := T.grew hb3
          have l1 := T.fresh b o (by omega) (by omega) hnP
          obtain ⟨w4, hu4, T4, hq4⟩ := T.seen (by omega) b o (by omega) (by omega) hnP
          clear q1 c0 c1 c2
          have eP : (fun v => (∃ i, i < m ∧ v = pairV (Ap.blk B I i) (Ap.off I i)) ∨ v = pairV b o) = (fun v => ∃ i, i < m + 1 ∧ v = pairV (Ap.blk B I i) (Ap.off I i)) := by
            funext v
            rw [hbE, hoE]
            exact propext (step_ex m (fun i => v = pairV (Ap.blk B I i) (Ap.off I i)))
          have eQ : (fun v : Value => (∃ i, i < m ∧ v = Value.int .i64 ((Ap.blk B I i : Nat) : Int)) ∨ v = Value.int .i64 (b : Int)) = (fun v : Value => ∃ i, i < m + 1 ∧ v = Value.int .i64 ((Ap.blk B I i : Nat) : Int)) := by
            funext v
            rw [hbE]
            exact propext (step_ex m (fun i => v = Value.int .i64 ((Ap.blk B I i : Nat) : Int)))
          have eS : ∀ j, (Ap.Base B c G j ∨ ∃ i, i < m + 1 ∧ j = Ap.blk B I i) ↔ ((Ap.Base B c G j ∨ ∃ i, i < m ∧ j = Ap.blk B I i) ∨ j = b) := by
            intro j
            rw [← step_ex m (fun i => j = Ap.blk B I i), ← hbE, or_assoc]
          have HP := (show Hid _ from eP)
          have HQ := (show Hid _ from eQ)
          have HS := (show Hid _ from eS)
          have HB2 : Hid (b = Ap.blk B I m) := hbE
          clear eP eQ eS hbE hoE hnP
          by_cases hQ : ∃ i, i < m ∧ Value.int .i64 (b : Int) = .int .i64 ((Ap.blk B I i : Nat) : Int)
          · obtain ⟨w5, hu5, T5⟩ := T4.met hq4 (by omega) b (by omega)
            have l2 := T4.lookYes b (by omega) hQ
            have hbS : ∃ i, i < m ∧ b = Ap.blk B I i := by
              obtain ⟨i, hi, he⟩ := hQ
              simp at he
              exact ⟨i, hi, by omega⟩
            clear hQ hq4
            go_wp2
            go_roundw
            case rel =>
              refine ⟨m + 1, by omega, by go_num, T5.congr (fun j _ => ?_) HP.out HQ.out⟩
              rw [HS.out j]
              constructor
              · exact .inl
              · rintro (h | h)
                · exact h
                · rw [h]; exact .inr hbS
            case measure => simp [intOf]; omega
          · have l2 := T4.lookNo b (by omega) hQ
            have k1 := T4.a.k.cell b hbN
            have f1 := T4.a.k.fz b
            rw [cnt_no (by
              rintro (h | ⟨i, hi, h⟩)
              · rw [HB2.out, HC.out] at h
                exact Ap.blk_not (by omega) hf hr hmG h
              · exact hQ ⟨i, hi, by rw [h]⟩)] at k1
            have T5 := T4.bump b hbN
            have hq5 := T4.bumpMet hq4 b (.int .i64 1)
            obtain ⟨w6, hu6, T6⟩ := T5.met hq5 (by omega) b (by omega)
            clear hQ hq4 hq5
            go_wp2
            go_roundw
            case rel =>
              refine ⟨m + 1, by omega, by go_num, T6.congr (fun j _ => ?_) HP.out HQ.out⟩
              rw [HS.out j]
            case measure => simp [intOf]; omega
        · have e : M = m := by omega
          subst e
          clear c0 c1 c2
          have hall : ∀ j, j < N → (Ap.Base B c G j ∨ ∃ i, i < M ∧ j = Ap.blk B I i) := by
            intro j hj
            rw [HC.out, HM.out]
            exact Ap.all_met (by omega) (by omega) hf hr (by rw [← HN.out]; exact hj)
          have T2 : AT w G B I N wr kb sb (sb + 1) M (fun _ => True) (fun v => ∃ i, i < M ∧ v = pairV (Ap.blk B I i) (Ap.off I i)) (fun v => ∃ i, i < M ∧ v = Value.int .i64 ((Ap.blk B I i : Nat) : Int)) := T.congr (fun j hj => ⟨fun _ => trivial, fun _ => hall j hj⟩) rfl rfl
          generalize (fun v => ∃ i, i < M ∧ v = pairV (Ap.blk B I i) (Ap.off I i)) = P at T2
          generalize (fun v => ∃ i, i < M ∧ v = Value.int .i64 ((Ap.blk B I i : Nat) : Int)) = Q at T2
          clear T hall
          have hMI : (G : Int) * (I : Int) = (M : Int) := by rw [HM.out, Int.natCast_mul]
          go_wp2_with fail
          go_loopw [139] (fun i wr => ∃ j : Nat, j ≤ N ∧ i = .int .i64 (j : Int) ∧ AT w G B I N wr kb sb (sb + 1) M (fun _ => True) P Q) (fun i _ => N - (intOf i).toNat)
          case atStart => exact ⟨0, by omega, rfl, T2⟩
          case round =>
            clear T2
            obtain ⟨j, hj, rfl, T⟩ := hrel
            have c0 := drew_cell T.a.b0
            have c1 := drew_cell T.a.b1
            have c2 := drew_cell T.a.b2
            by_cases hjl : j < N
            · have hI4 : (j : Int) < (N : Int) := by omega
              have k1 := T.a.k.cell j hjl
              rw [cnt_yes trivial] at k1
              obtain ⟨bb, q1, q2⟩ := H.isD j hjl
              have T := T.grew (below_drewN (Below.refl _ wr) 1)
              go_wp2_with fail
              go_region_held3 (fun w' => w'.cell? ⟨w.heap.size, 0, none⟩ = some (.int .i64 (G : Int)) ∧ w'.cell? ⟨w.heap.size, 1, none⟩ = some (.int .i64 (B : Int)) ∧ w'.cell? ⟨w.heap.size, 2, none⟩ = some (.int .i64 (I : Int))) (first | exact ⟨c0, c1, c2⟩ | assumption)
                (first
                  | (go_at_call 36; refine grew_at (q1 _) ?_; intro w3 hb3; have T := T.grew hb3; have c0 := T.a.b0; have c1 := T.a.b1; have c2 := T.a.b2)
                  | (go_at_call 37; refine grew_at (q2 _) ?_; intro w3 hb3; have T := T.grew hb3; have c0 := T.a.b0; have c1 := T.a.b1; have c2 := T.a.b2))
              go_wp2
              go_roundw
              case rel => exact ⟨j + 1, by omega, by go_num, T⟩
              case measure => simp [intOf]; omega
            · have e : N = j := by omega
              subst e
              have hln := fun ty => T.s.len Try.underlying51 ty
              have c0 := T.a.b0
              have c1 := T.a.b1
              have c2 := T.a.b2
              have hbw := T.a.bw
              go_wp2
              go_ret
              exact ⟨rfl, hbw⟩

theorem geomApart_walk (G B I : Int) (w : World) : Calls Try.prog 7 #[geomV G B I] w fun e w' => e = .returned (.bool true) ∧ Below w.heap.size w w' := by
  by_cases h : Gm.May G B I
  · obtain ⟨g, b, i, rfl, rfl, rfl, hn⟩ := nm_of h
    exact apart_may g b i _ _ _ _ (ws_of hn) w
  · exact apart_not G B I h w
end Go.Proofs.Ytkmijjipnepnoab
