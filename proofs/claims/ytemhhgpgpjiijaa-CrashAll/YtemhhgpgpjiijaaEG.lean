/- both: two disks over an image, with writes in their queues. -/
import Derived.Test.YtemhhgpgpjiijaaEG0
namespace Go.Proofs.Ytemhhgpgpjiijaa
open Go.RowKit Go.Maps
set_option linter.unusedVariables false

/-- A write that was handed in: its block and its bytes. -/
structure DoB (w : World) (b o : Nat) (x : Int × List Int) : Prop where
  c0 : w.cell? ⟨b, o, none⟩ = some (.int .i64 x.1)
  c1 : ∃ p m c, w.cell? ⟨b, o + 1, none⟩ = some (.slice p m c) ∧ m ≤ c ∧ c ≤ 9223372036854775807 ∧ BI w p m x.2
  r0 : -9223372036854775808 ≤ x.1 ∧ x.1 ≤ 9223372036854775807

/-- The slice at p, of n writes, holds D. -/
structure DoBs (w : World) (p : Option Addr) (n : Nat) (D : List (Int × List Int)) : Prop where
  len : D.length = n
  big : n ≤ 140737488355328
  cells : 0 < n → ∃ b o, p = some ⟨b, o, none⟩ ∧ ∀ i x, D[i]? = some x → DoB w b (o + i * 2) x

theorem DoB.kept {w w' : World} {b o : Nat} {x : Int × List Int} (h : DoB w b o x) (hb : Below w.heap.size w w') : DoB w' b o x := by
  have hlt := lt_of_cell h.c0
  have hk : ∀ j, w'.cell? ⟨b, j, none⟩ = w.cell? ⟨b, j, none⟩ := fun j => hb.cell (p := ⟨b, j, none⟩) hlt
  obtain ⟨p, m, c, e, r1, r2, r3⟩ := h.c1
  exact ⟨(hk _).trans h.c0, ⟨p, m, c, (hk _).trans e, r1, r2, r3.kept hb⟩, h.r0⟩

theorem DoBs.kept {w w' : World} {p : Option Addr} {n : Nat} {D : List (Int × List Int)} (h : DoBs w p n D) (hb : Below w.heap.size w w') : DoBs w' p n D :=
  ⟨h.len, h.big, fun h0 => by
    obtain ⟨b, o, e, hc⟩ := h.cells h0
    exact ⟨b, o, e, fun i x hx => (hc i x hx).kept hb⟩⟩

theorem IB.kept {w w' : World} {p : Option Addr} {n : Nat} {L : List (List Int)} (h : IB w p n L) (hb : Below w.heap.size w w') : IB w' p n L := by
  refine ⟨h.len, h.big, fun h0 => ?_⟩
  obtain ⟨b, o, rfl, hc⟩ := h.cells h0
  refine ⟨b, o, rfl, fun i xs hx => ?_⟩
  obtain ⟨q, m, c, hcell, hbi⟩ := hc i xs hx
  exact ⟨q, m, c, (hb.cell (p := ⟨b, o + i, none⟩) (lt_of_cell hcell)).trans hcell, hbi.kept hb⟩

theorem DI.base {B B' : Nat} {w : World} {a mb fb : Nat} {qv : Value} {S : St} (h : DI B w a mb fb qv S) (hB : B' ≤ B) : DI B' w a mb fb qv S :=
  { h with
    que := ownsRow_base h.que hB
    lo := ⟨Nat.le_trans hB h.lo.1, Nat.le_trans hB h.lo.2.1, Nat.le_trans hB h.lo.2.2⟩ }

/-- The disk that both make: nothing is done yet; numbers go up from 1. -/
structure Bt (S : St) (m : Nat) (L : List (List Int)) : Prop where
  n : S.N = m
  f : S.f = part L m
  fl : S.fl = fun _ => 0
  last : S.last = S.q.length
  ids : ∀ (i : Nat) (x : Wr), S.q[i]? = some x → x.id = (i : Int) + 1

theorem bt_write {S : St} {m : Nat} {L : List (List Int)} (h : Bt S m L) (b : Int) (n : Nat) (xs : List Int) : Bt (aWrite S b n xs).2.2 m L ∧ (aWrite S b n xs).2.2.q.length ≤ S.q.length + 1 := by
  unfold aWrite
  split
  · exact ⟨h, Nat.le_succ _⟩
  · split
    · exact ⟨h, Nat.le_succ _⟩
    · split
      · exact ⟨h, Nat.le_succ _⟩
      · refine ⟨⟨h.n, h.f, h.fl, ?_, ?_⟩, by simp [St.put]⟩
        · simp [St.put, h.last]
        · intro i x hx
          simp only [St.put] at hx
          by_cases hi : i < S.q.length
          · rw [List.getElem?_append_left hi] at hx
            exact h.ids i x hx
          · rw [List.getElem?_append_right (by omega)] at hx
            have : i - S.q.length = 0 := by have := (List.getElem?_eq_some_iff.1 hx).1; simpa using this
            rw [this] at hx
            simp at hx
            rw [← hx, h.last]
            show (S.q.length : Int) + 1 = _
            omega

theorem bad_not {L : List (List Int)} (h1 : ∀ xs ∈ L, xs.length = 128) (h2 : ∃ xs ∈ L, xs.length ≠ 128) : False := by
  obtain ⟨xs, hx, hn⟩ := h2
  exact hn (h1 xs hx)

set_option maxRecDepth 10000 in
set_option maxHeartbeats 4000000 in
theorem both_ok (ip : Option Addr) (m ic : Nat) (L : List (List Int)) (p : Option Addr) (n c : Nat) (D : List (Int × List Int)) (w : World) (hI : IB w ip m L) (h24 : m * 24 ≤ 140737488355328) (h : DoBs w p n D) :
    Calls Try.prog 5 #[.slice ip m ic, .slice p n c] w fun e w' => Below w.heap.size w w' ∧ (e = .returned (.tuple #[.pointer none, .pointer none, .bool true]) ∨
      ((∀ xs ∈ L, xs.length = 128) ∧ ∃ a mb fb qv x S, e = .returned (.tuple #[.pointer (some ⟨a, 0, none⟩), .pointer (some ⟨x, 0, none⟩), .bool true]) ∧ DI w.heap.size w' a mb fb qv S ∧ Bt S m L ∧ S.q.length ≤ min n 11)) := by
  have hbig := h.big
  have hlen := h.len
  go_enter Try.func5, Try.ntmps5
  go_wp2_with fail
  refine (pimage_ok ip m ic L w hI h24).mono ?_
  rintro e w1 ⟨v, vs, rfl, hp, hb1⟩
  obtain ⟨gp, gc, rfl, hib1⟩ := hp.ib (by omega)
  by_cases hr : m < 1 ∨ 2048 < m
  · go_wp2_with fail
    refine same_at (of_range gp m gc hr w1) ?_
    go_wp2_with fail
    refine same_at (rof_range ip m ic hr w1) ?_
    go_wp2
    go_ret3
    exact ⟨hb1, .inl rfl⟩
  · go_wp2_with fail
    refine (of_ok gp m gc L w1 hib1 (by omega) (by omega)).mono ?_
    rintro e w2 ⟨hb2, ⟨hgood, a, mb, fb, rfl, hd2⟩ | ⟨hbad, rfl⟩⟩
    · have hbw2 := hb1.trans (hb2.mono hb1.size)
      go_wp2_with fail
      refine (rof_ok ip m ic L w2 (hI.kept hbw2) (by omega) (by omega)).mono ?_
      rintro e w3 ⟨hb3, ⟨_, x, bv, fv, gB, rfl, hr3⟩ | ⟨hbad, rfl⟩⟩
      · have hd3 : DI w.heap.size w3 a mb fb (.slice none 0 0) ⟨m, part L m, [], 0, fun _ => 0⟩ := (hd2.later hb3).base hb1.size
        have hr3' : RI w.heap.size w3 x bv (.slice none 0 0) fv gB [] ⟨m, part L m, [], 0, fun _ => 0⟩ := hr3.base hbw2.size
        have hbw3 := hbw2.trans (hb3.mono hbw2.size)
        have HG := (show Hid _ from hgood)
        clear hd2 hr3 hp hib1 hb1 hb2 hb3 hbw2 hgood
        go_wp2_with fail
        go_loopw [41] (fun i wr => ∃ (j : Nat) (dq qv : Value) (gQ : List (Nat × Nat)) (S : St), j ≤ n ∧ j ≤ 11 ∧ i = .int .i64 (j : Int) ∧ DI w.heap.size wr a mb fb dq S ∧ RI w.heap.size wr x bv qv fv gB gQ S ∧ Bt S m L ∧ S.q.length ≤ j ∧ Below w.heap.size w wr) (fun i _ => n - (intOf i).toNat)
        case atStart => exact ⟨0, _, _, _, _, by omega, by omega, rfl, hd3, hr3', ⟨rfl, rfl, rfl, rfl, by simp⟩, by simp, hbw3⟩
        case round =>
          clear hd3 hr3' hbw3
          obtain ⟨j, dq, qv, gQ, S, hj, h11, rfl, hd, hr, hbt, hqj, hb⟩ := hrel
          by_cases hlt : j < n
          · obtain ⟨bb, oo, rfl, hat⟩ := h.cells (by omega)
            obtain ⟨k, hk⟩ : ∃ k, D[j]? = some k := ⟨D[j], List.getElem?_eq_getElem (by omega)⟩
            obtain ⟨k0, ⟨xp, xm, xc, k1, x1, x2, x3⟩, r0⟩ := (hat j k hk).kept hb
            obtain ⟨kb, kx⟩ := k
            dsimp only at k0 k1 x3 r0
            clear hat hk
            have hjI : (j : Int) < (n : Int) := by omega
            have ba := (Below.refl wr.heap.size wr).alloc (Nat.le_refl _) (.cells #[.int .i64 kb, .slice xp xm xc] 58)
            have hT : (wr.alloc (.cells #[.int .i64 kb, .slice xp xm xc] 58)).heap[wr.heap.size]? = some (.cells #[.int .i64 kb, .slice xp xm xc] 58 (0, 0)) := at_new rfl
            have hs5 : (wr.alloc (.cells #[.int .i64 kb, .slice xp xm xc] 58)).heap.size = wr.heap.size + 1 := by simp
            by_cases h10 : (10 : Int) < (j : Int)
            · go_wp2
              go_ret3
              exact ⟨hb.alloc hb.size _, .inr ⟨HG.out, a, mb, fb, dq, x, S, rfl, hd.later ba, hbt, by omega⟩⟩
            · go_wp2_with fail
              generalize wr.alloc (.cells #[.int .i64 kb, .slice xp xm xc] 58) = w6 at ba hT hs5 ⊢
              obtain ⟨T, hT0⟩ : ∃ T, wr.heap.size = T := ⟨_, rfl⟩
              have hd6 : DI w.heap.size w6.drew a mb fb dq S := hd.later ba.drew
              have hr6 : RI w.heap.size w6.drew x bv qv fv gB gQ S := hr.later ba.drew
              have hx6 : BI w6.drew xp xm kx := x3.kept ba.drew
              have hb6 : Below w.heap.size w w6.drew := hb.trans (ba.drew.mono hb.size)
              rw [hT0] at ba hT hs5 ⊢
              have t1 : w6.drew.cell? ⟨T, 1, none⟩ = some (.slice xp xm xc) := by rw [cell_of_row w6.drew T 1 _ _ _ hT]; rfl
              obtain ⟨m0, hm0, hm1, hm2⟩ : ∃ m0 : Nat, m0 = min xm 128 ∧ m0 ≤ xm ∧ m0 ≤ 128 := ⟨_, rfl, by omega, by omega⟩
              have hxc : (m0 : Int) ≤ (xc : Int) := by omega
              have hcut : BI w6.drew xp m0 (kx.take m0) := hx6.take m0 hm1
              obtain ⟨q, hq⟩ : ∃ q : Nat, q = 128 - m0 := ⟨_, rfl⟩
              have hqm : m0 + q = 128 := by omega
              have hpad2 : (128 : Int) - (m0 : Int) = (q : Int) := by omega
              have hbt2 := byt_take hx6.byt m0
              have HM := (show Hid (m0 = min xm 128) from hm0)
              clear hm0 hq
              have hqw : IntKind.i64.wrap (q : Int) = (q : Int) := by rw [IntKind.wrap_i64]; omega
              clear k0 k1 h hd hr x3 ba
              refine wp_region_noPanic ?_
              refine wp_region_held_drew (S := fun w' => w'.cell? ⟨T, 1, none⟩ = some (.slice xp xm xc)) (by kernel_rfl) t1 (fun hHeld => ?_)
              refine wpAnyH_take (i := 0) (oi := { dst := some 48, op := Op.fieldAddr 58 (Operand.tmp 12) 1, type := 0, pos := "law.go:32", after := #[], guard := none }) (v := ?_) rfl (by kernel_rfl) (by kernel_rfl) (by kernel_rfl) (fun _ _ _ h => h) (Or.inl ⟨by rfl, ?_⟩) (by assumption) ?_
              rotate_left
              · (intro w hSw; (try dsimp only at hSw); go_simp; try (with_reducible rfl))
              simp only [Act.put, List.setIfInBounds_toArray, List.set_cons_zero, List.set_cons_succ]
              refine wpAnyH_take (i := 1) (oi := { dst := some 49, op := Op.load 42 (Operand.tmp 48), type := 42, pos := "law.go:32", after := #[{ on := 0, ground := Ground.data }], guard := none }) (v := ?_) rfl (by kernel_rfl) (by kernel_rfl) (by kernel_rfl) (fun _ _ _ h => h) (Or.inl ⟨by rfl, ?_⟩) (by assumption) ?_
              rotate_left
              · (intro w hSw; (try dsimp only at hSw); go_simp; try (with_reducible rfl))
              simp only [Act.put, List.setIfInBounds_toArray, List.set_cons_zero, List.set_cons_succ]
              refine wpAnyH_take (i := 2) (oi := { dst := some 50, op := Op.fieldAddr 58 (Operand.tmp 12) 1, type := 0, pos := "law.go:32", after := #[], guard := none }) (v := ?_) rfl (by kernel_rfl) (by kernel_rfl) (by kernel_rfl) (fun _ _ _ h => h) (Or.inl ⟨by rfl, ?_⟩) (by assumption) ?_
              rotate_left
              · (intro w hSw; (try dsimp only at hSw); go_simp; try (with_reducible rfl))
              simp only [Act.put, List.setIfInBounds_toArray, List.set_cons_zero, List.set_cons_succ]
              refine wpAnyH_take (i := 3) (oi := { dst := some 51, op := Op.load 42 (Operand.tmp 50), type := 42, pos := "law.go:32", after := #[{ on := 2, ground := Ground.data }], guard := none }) (v := ?_) rfl (by kernel_rfl) (by kernel_rfl) (by kernel_rfl) (fun _ _ _ h => h) (Or.inl ⟨by rfl, ?_⟩) (by assumption) ?_
              rotate_left
              · (intro w hSw; (try dsimp only at hSw); go_simp; try (with_reducible rfl))
              simp only [Act.put, List.setIfInBounds_toArray, List.set_cons_zero, List.set_cons_succ]
              refine wpAnyH_take (i := 4) (oi := { dst := some 52, op := Op.call { callee := Callee.builtin Builtin.len, args := #[Operand.tmp 51], argTypes := #[42] }, type := 3, pos := "law.go:32", after := #[{ on := 3, ground := Ground.data }], guard := none }) (v := ?_) rfl (by kernel_rfl) (by kernel_rfl) (by kernel_rfl) (fun _ _ _ h => h) (Or.inl ⟨by rfl, ?_⟩) (by assumption) ?_
              rotate_left
              · (intro w hSw; (try dsimp only at hSw); go_simp; try (with_reducible rfl))
              simp only [Act.put, List.setIfInBounds_toArray, List.set_cons_zero, List.set_cons_succ]
              refine wpAnyH_take (i := 8) (oi := { dst := some 56, op := Op.fieldAddr 58 (Operand.tmp 12) 1, type := 0, pos := "law.go:32", after := #[], guard := none }) (v := ?_) rfl (by kernel_rfl) (by kernel_rfl) (by kernel_rfl) (fun _ _ _ h => h) (Or.inl ⟨by rfl, ?_⟩) (by assumption) ?_
              rotate_left
              · (intro w hSw; (try dsimp only at hSw); go_simp; try (with_reducible rfl))
              simp only [Act.put, List.setIfInBounds_toArray, List.set_cons_zero, List.set_cons_succ]
              refine wpAnyH_take (i := 9) (oi := { dst := some 57, op := Op.load 42 (Operand.tmp 56), type := 42, pos := "law.go:32", after := #[{ on := 8, ground := Ground.data }], guard := none }) (v := ?_) rfl (by kernel_rfl) (by kernel_rfl) (by kernel_rfl) (fun _ _ _ h => h) (Or.inl ⟨by rfl, ?_⟩) (by assumption) ?_
              rotate_left
              · (intro w hSw; (try dsimp only at hSw); go_simp; try (with_reducible rfl))
              simp only [Act.put, List.setIfInBounds_toArray, List.set_cons_zero, List.set_cons_succ]
              refine wpAnyH_take (i := 10) (oi := { dst := some 58, op := Op.call { callee := Callee.builtin Builtin.len, args := #[Operand.tmp 57], argTypes := #[42] }, type := 3, pos := "law.go:32", after := #[{ on := 9, ground := Ground.data }], guard := none }) (v := ?_) rfl (by kernel_rfl) (by kernel_rfl) (by kernel_rfl) (fun _ _ _ h => h) (Or.inl ⟨by rfl, ?_⟩) (by assumption) ?_
              rotate_left
              · (intro w hSw; (try dsimp only at hSw); go_simp; try (with_reducible rfl))
              simp only [Act.put, List.setIfInBounds_toArray, List.set_cons_zero, List.set_cons_succ]
              refine wpAnyH_take (i := 5) (oi := { dst := some 53, op := Op.call { callee := Callee.builtin Builtin.min, args := #[Operand.tmp 52, Operand.const (Value.int IntKind.i64 128)], argTypes := #[3, 3] }, type := 3, pos := "law.go:32", after := #[{ on := 4, ground := Ground.data }], guard := none }) (v := .int .i64 (m0 : Int)) rfl (by kernel_rfl) (by kernel_rfl) (by kernel_rfl) (fun _ _ _ h => h) (Or.inl ⟨by rfl, ?_⟩) (by assumption) ?_
              · (intro w hSw; (try dsimp only at hSw); go_simp; have := HM.out; first | omega | (split <;> omega))
              simp only [Act.put, List.setIfInBounds_toArray, List.set_cons_zero, List.set_cons_succ]
              refine wpAnyH_take (i := 11) (oi := { dst := some 59, op := Op.call { callee := Callee.builtin Builtin.min, args := #[Operand.tmp 58, Operand.const (Value.int IntKind.i64 128)], argTypes := #[3, 3] }, type := 3, pos := "law.go:32", after := #[{ on := 10, ground := Ground.data }], guard := none }) (v := .int .i64 (m0 : Int)) rfl (by kernel_rfl) (by kernel_rfl) (by kernel_rfl) (fun _ _ _ h => h) (Or.inl ⟨by rfl, ?_⟩) (by assumption) ?_
              · (intro w hSw; (try dsimp only at hSw); go_simp; have := HM.out; first | omega | (split <;> omega))
              simp only [Act.put, List.setIfInBounds_toArray, List.set_cons_zero, List.set_cons_succ]
              refine wpAnyH_take (i := 6) (oi := { dst := some 54, op := Op.slice 42 (Operand.tmp 49) none (some (Operand.tmp 53)) none, type := 42, pos := "law.go:32", after := #[{ on := 1, ground := Ground.data }, { on := 5, ground := Ground.data }], guard := none }) (v := .slice xp m0 xc) rfl (by kernel_rfl) (by kernel_rfl) (by kernel_rfl) (fun _ _ _ h => h) (Or.inl ⟨by rfl, ?_⟩) (by assumption) ?_
              · (intro w hSw; (try dsimp only at hSw); go_simp)
              simp only [Act.put, List.setIfInBounds_toArray, List.set_cons_zero, List.set_cons_succ]
              refine wpAnyH_take (i := 12) (oi := { dst := some 60, op := Op.binOp BinOp.sub 3 (Operand.const (Value.int IntKind.i64 128)) (Operand.tmp 59) 3, type := 3, pos := "law.go:32", after := #[{ on := 11, ground := Ground.data }], guard := none }) (v := .int .i64 (q : Int)) rfl (by kernel_rfl) (by kernel_rfl) (by kernel_rfl) (fun _ _ _ h => h) (Or.inl ⟨by rfl, ?_⟩) (by assumption) ?_
              · (intro w hSw; (try dsimp only at hSw); go_simp)
              simp only [Act.put, List.setIfInBounds_toArray, List.set_cons_zero, List.set_cons_succ]
              refine wpAnyH_ready (rs := [7]) (by kernel_rfl) (by simp) ?_
              refine AllReadyH.cons (o := { dst := some 55, op := Op.call { callee := Callee.value (Operand.func 21), args := #[Operand.tmp 54], argTypes := #[42] }, type := 42, pos := "law.go:32", after := #[{ on := 6, ground := Ground.data }], guard := none }) rfl (fun K hK => ?_) AllReadyH.nil
              rw [if_pos (by rfl)]
              go_simp
              refine Calls.mono (sclone_any _ m0 _ (kx.take m0) _ hcut) ?_
              rintro e w7 ⟨v, rfl, ho7, hb7⟩
              dsimp only
              have t1' := (hb7.cell (p := ⟨T, 1, none⟩) (lt_of_cell t1)).trans t1
              refine hK.out _ _ t1' (fun hHeld => ?_)
              clear hK K
              try simp only [Act.put, List.setIfInBounds_toArray, List.set_cons_zero, List.set_cons_succ]
              have hb9 : Hid (∀ w9, w7.grownBy w9 v.ownBlock → Below w6.drew.heap.size w6.drew w9) := fun w9 hg9 => hb7.grown hg9 hb7.size (fun k hk => (ho7.lt k hk).1)
              obtain ⟨g9, cap9, w9, hr9, ho9, hg9⟩ := zeros_own _ w7 v m0 q (kx.take m0) ho7 hqm hb7.size 42
              have hbw9 := hb9.out w9 hg9
              have t1'' := (hbw9.cell (p := ⟨T, 1, none⟩) (lt_of_cell t1)).trans t1
              have hbi9 := ho9.bi (by omega) (byt_pad hbt2 q)
              refine wpAnyH_ready (rs := [13]) (by kernel_rfl) (by simp) ?_
              refine AllReadyH.cons (o := { dst := some 61, op := Op.call { callee := Callee.builtin Builtin.append, args := #[Operand.tmp 55, Operand.tmp 60], argTypes := #[42, 3] }, type := 42, pos := "law.go:32", after := #[{ on := 7, ground := Ground.data }, { on := 12, ground := Ground.data }, { on := 7, ground := Ground.chain }], guard := none }) rfl (fun K hK => ?_) AllReadyH.nil
              refine step_append_run (by rfl) (.tmp 55) (.tmp 60) 42 3 (by rfl) v (.int .i64 (q : Int)) (by rfl) (by rfl) _ _ hr9 ?_
              refine hK.out _ _ t1'' (fun hHeld => ?_)
              clear hK K
              try simp only [Act.put, List.setIfInBounds_toArray, List.set_cons_zero, List.set_cons_succ]
              refine wpAnyH_take (i := 14) (oi := { dst := some 13, op := Op.assign (Operand.tmp 61), type := 42, pos := "law.go:32", after := #[{ on := 13, ground := Ground.data }, { on := 13, ground := Ground.chain }, { on := 0, ground := Ground.phase }, { on := 1, ground := Ground.phase }, { on := 2, ground := Ground.phase }, { on := 3, ground := Ground.phase }, { on := 4, ground := Ground.phase }, { on := 5, ground := Ground.phase }, { on := 6, ground := Ground.phase }, { on := 7, ground := Ground.phase }, { on := 8, ground := Ground.phase }, { on := 9, ground := Ground.phase }, { on := 10, ground := Ground.phase }, { on := 11, ground := Ground.phase }, { on := 12, ground := Ground.phase }, { on := 13, ground := Ground.phase }], guard := none }) (v := ?_) rfl (by kernel_rfl) (by kernel_rfl) (by kernel_rfl) (fun _ _ _ h => h) (Or.inl ⟨by rfl, ?_⟩) (by assumption) ?_
              rotate_left
              · (intro w hSw; (try dsimp only at hSw); go_simp; try (with_reducible rfl))
              simp only [Act.put, List.setIfInBounds_toArray, List.set_cons_zero, List.set_cons_succ]
              refine wpAnyH_done (by kernel_rfl) ?_ _
              refine NoPanic.normal ?_
              have hb9w : Below w.heap.size w w9 := hb6.trans (hbw9.mono hb6.size)
              have hd9 := hd6.later hbw9
              have hrr9 := hr6.later hbw9
              have hT9 : w9.heap[T]? = some (.cells #[.int .i64 kb, .slice xp xm xc] 58 (0, 0)) := (hbw9.block T (by show T < w6.heap.size; omega)).trans hT
              have hS := hd9.ok
              have hlast : S.last < 9223372036854775807 := by rw [hbt.last]; omega
              obtain ⟨xs, hxs⟩ : ∃ xs, kx.take m0 ++ List.replicate q 0 = xs := ⟨_, rfl⟩
              rw [hxs] at ho9 hbi9
              clear hxs hr9 hg9 ho7 hb7 hb9 hbw9 hd6 hr6 t1 t1' t1'' hHeld hcut hx6 hT hb6
              have t0 : w9.cell? ⟨T, 0, none⟩ = some (.int .i64 kb) := by rw [cell_of_row w9 T 0 _ _ _ hT9]; rfl
              have cD := dWrite hd9 hb9w.size kb (some ⟨g9, 0, none⟩) 128 cap9 xs hbi9 hlast
              have hbw := bt_write hbt kb 128 xs
              generalize hR : aWrite S kb 128 xs = R at cD hbw
              obtain ⟨n1, e1, S1⟩ := R
              have HR := (show Hid _ from hR)
              have CD := (show Hid _ from cD)
              have HBW := (show Hid _ from hbw)
              clear cD hR hbw
              go_wp2_with fail
              refine Calls.mono CD.out ?_
              rintro e wA ⟨dqA, rfl, hdA, hfA, hnA⟩
              have hrA := hrr9.kept (w' := wA) (fun k hk => hfA.block k (hrr9.in hk).2 (hrr9.apart hd9 hk))
              have hoA : Own w6.drew.heap.size wA g9 128 cap9 xs := ownsRow_kept ho9 (fun k hk => hfA.block k (World.ownsRow.lt ho9 k hk).2 (fun hx => by
                obtain ⟨cs', hc⟩ := own_ty ho9 hk
                exact hd9.notin hc (by decide) (by decide) hx))
              have hTA : wA.heap[T]? = some (.cells #[.int .i64 kb, .slice xp xm xc] 58 (0, 0)) := (hfA.block T (Array.getElem?_eq_some_iff.1 hT9).1 (hd9.notin hT9 (by decide) (by decide))).trans hT9
              have hbA : Below w.heap.size w wA := hb9w.trans (hfA.below hb9w.size (fun k hk => (hd9.in k hk).1))
              have hbiA := hoA.bi (by omega) hbi9.byt
              have cR := rWrite hrA hS hbA.size kb (some ⟨g9, 0, none⟩) 128 cap9 xs hbiA hlast
              rw [HR.out] at cR
              have CR := (show Hid _ from cR)
              have tA : wA.cell? ⟨T, 0, none⟩ = some (.int .i64 kb) := by rw [cell_of_row wA T 0 _ _ _ hTA]; rfl
              clear cR CD hd9 hrr9 ho9 hbi9 t0 hT9 hfA hnA
              go_wp2_with fail
              refine Calls.mono CR.out ?_
              rintro e wB ⟨qvB, gQB, rfl, hrB, hfB, hnB, hnB2⟩
              have hdB := hdA.kept (w' := wB) (fun k hk => hfB.block k (hdA.in k hk).2 (fun hx => hrA.apart hdA (.inl hx) hk))
              have hbB : Below w.heap.size w wB := hbA.trans (hfB.below hbA.size (fun k hk => (hrA.in (.inl hk)).1))
              clear CR hrA hdA hoA hTA hbiA tA hfB hnB hnB2
              go_wp2
              go_roundw
              case rel => exact ⟨j + 1, dqA, qvB, gQB, S1, by omega, by omega, by go_num, hdB, hrB, HBW.out.1, by have := HBW.out.2; omega, hbB⟩
              case measure => simp [intOf]; omega
          · obtain rfl : j = n := by omega
            go_wp2
            go_ret3
            exact ⟨hb, .inr ⟨HG.out, a, mb, fb, dq, x, S, rfl, hd, hbt, by omega⟩⟩
      · exact (bad_not hgood hbad).elim
    · have hbw2 := hb1.trans (hb2.mono hb1.size)
      go_wp2_with fail
      refine (rof_ok ip m ic L w2 (hI.kept hbw2) (by omega) (by omega)).mono ?_
      rintro e w3 ⟨hb3, ⟨hgood, _⟩ | ⟨_, rfl⟩⟩
      · exact (bad_not hgood hbad).elim
      · go_wp2
        go_ret3
        exact ⟨hbw2.trans (hb3.mono hbw2.size), .inl rfl⟩
end Go.Proofs.Ytemhhgpgpjiijaa
