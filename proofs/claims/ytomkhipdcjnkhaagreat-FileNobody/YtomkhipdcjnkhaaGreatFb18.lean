/- A4 L3 L4 -/
import Derived.Test.YtomkhipdcjnkhaaGreatFb17
import Derived.BigQuiet
import Derived.Deep.QuietTactic
import Derived.Deep.DeepCutAuto

/- AllocNobody: the statement's own call returns true. -/
namespace Go.Proofs.YtomkhipdcjnkhaaGreat
open Go.RowKit Go.Maps Go.MuLone
set_option linter.unusedVariables false
set_option maxRecDepth 100000

/-- Two pointers in a row: none, and one to a block whose cell o is z. -/
structure Two (w w' : World) (H o : Nat) (z : Value) : Prop where
  c0 : w'.cell? ⟨H + 1, 0, none⟩ = some (.pointer none)
  c1 : w'.cell? ⟨H + 1, 1, none⟩ = some (.pointer (some ⟨H, 0, none⟩))
  cz : w'.cell? ⟨H, o, none⟩ = some z
  b : Below w.heap.size w w'
  s : H + 1 < w'.heap.size
theorem Two.kept {w w' w'' : World} {H o : Nat} {z : Value} (h : Two w w' H o z) (hb : Below w'.heap.size w' w'') : Two w w'' H o z :=
  ⟨(hb.cell (p := ⟨H + 1, 0, none⟩) h.s).trans h.c0, (hb.cell (p := ⟨H + 1, 1, none⟩) h.s).trans h.c1, (hb.cell (p := ⟨H, o, none⟩) (by have := h.s; show H < _; omega)).trans h.cz, h.b.trans (hb.mono h.b.size), Nat.lt_of_lt_of_le h.s hb.size⟩

/-- A volume that no call made as it is built. -/
abbrev vZ : Obj := .cells #[.int .i32 0, .int .u32 0, .pointer none, .pointer none, .pointer none, .map none, .pointer none] 55
theorem two_vol (w : World) {w0 : World} (hb : Below w0.heap.size w0 w) (t : TypeId) : Two w0 ((w.alloc vZ).alloc (.cells #[.pointer none, .pointer (some ⟨w.heap.size, 0, none⟩)] t)) w.heap.size 2 (.pointer none) := by
  have b0 : Below w.heap.size w (w.alloc vZ) := (Below.refl _ w).alloc (Nat.le_refl _) _
  have b1 := b0.alloc (show w.heap.size ≤ _ by simp) (.cells #[.pointer none, .pointer (some ⟨w.heap.size, 0, none⟩)] t)
  have hrow := heap_alloc_new (w.alloc vZ) (.cells #[.pointer none, .pointer (some ⟨w.heap.size, 0, none⟩)] t)
  rw [World.size_alloc] at hrow
  have hz := (Below.heap_alloc (w.alloc vZ) (.cells #[.pointer none, .pointer (some ⟨w.heap.size, 0, none⟩)] t) w.heap.size (by simp)).trans (heap_alloc_new w _)
  exact ⟨cell_of_row _ _ 0 _ t _ hrow, cell_of_row _ _ 1 _ t _ hrow, cell_of_row _ _ 2 _ 55 _ hz, hb.trans (b1.mono hb.size), by simp⟩

theorem Two.void {w w' : World} {H j : Nat} (h : Two w w' H 2 (.pointer none)) (hj : j < 2) : ∃ v, (∀ w', Two w w' H 2 (.pointer none) → VVoid w' (.pointer v)) ∧ w'.cell? ⟨H + 1, j, none⟩ = some (.pointer v) := by
  rcases (by omega : j = 0 ∨ j = 1) with rfl | rfl
  · exact ⟨none, fun _ _ => .inl rfl, h.c0⟩
  · exact ⟨_, fun w' h => .inr ⟨_, rfl, h.cz⟩, h.c1⟩

theorem kept_row {w w' : World} {b : Nat} {o : Obj} (h : w.heap[b]? = some o) (hb : Below w.heap.size w w') : w'.heap[b]? = some o := (hb.block b (Array.getElem?_eq_some_iff.1 h).1).trans h

set_option maxHeartbeats 1000000 in
theorem near_small {w : World} {v : Nat} {k : Int} (h : VHas w v k) (hk : ¬ k = 0) (hlt : k < 2048) : Calls Tryz.prog 58 #[.pointer (some ⟨v, 0, none⟩), Mk.geomV 8 256 64, .int .i64 0] w fun e w' => e = .returned (.int .i64 170) ∧ Below w.heap.size w w' := by
  obtain ⟨W1, hW1⟩ : ∃ W1, w.alloc (Mk.geomO 8 256 64) = W1 := ⟨_, rfl⟩
  have hb1 : Below w.heap.size w W1 := by rw [← hW1]; exact Mk.grew_alloc _ _
  have hg1 : W1.heap[w.heap.size]? = some (Mk.geomO 8 256 64) := by rw [← hW1]; exact at_new rfl
  have hv := refusal_small (G := 8) (B := 256) (I := 64) (N := 2048) (h.kept hb1) hk (by decide) (by decide) hlt
  clear hlt hk
  go_enter Tryz.func58, Tryz.ntmps58
  go_wp2_with (first
    | (refine wpList_load_row rfl 34 (.tmp 4) rfl w.heap.size rfl 34 _ (0, 0) _ hg1 Tryz.underlying34 rfl Mk.info23 ?_))
  refine Mk.grew_at hv ?_
  intro w2 hb2
  have HB : Hid (Below w.heap.size w w2) := Mk.grew_trans hb1 hb2
  clear hv hg1 hb1 hb2
  dsimp only
  go_wp2_with fail
  go_ret
  exact ⟨rfl, HB.out⟩
set_option maxHeartbeats 1000000 in
theorem block_small {w : World} {v : Nat} {k : Int} (h : VHas w v k) (hk : ¬ k = 0) (hlt : k < 2048) : Calls Tryz.prog 19 #[.pointer (some ⟨v, 0, none⟩), Mk.geomV 8 256 64, .int .i64 0, .slice none 0 0] w fun e w' => e = .returned (.tuple #[.int .i64 0, .int .i64 0, .int .i64 170]) ∧ Below w.heap.size w w' := by
  obtain ⟨W1, hW1⟩ : ∃ W1, w.alloc (Mk.geomO 8 256 64) = W1 := ⟨_, rfl⟩
  have hb1 : Below w.heap.size w W1 := by rw [← hW1]; exact Mk.grew_alloc _ _
  have hg1 : W1.heap[w.heap.size]? = some (Mk.geomO 8 256 64) := by rw [← hW1]; exact at_new rfl
  have hv := near_small (h.kept hb1) hk hlt
  clear hlt hk
  go_enter Tryz.func19, Tryz.ntmps19
  go_wp2_with (first
    | (refine wpList_load_row rfl 34 (.tmp 5) rfl w.heap.size rfl 34 _ (0, 0) _ hg1 Tryz.underlying34 rfl Mk.info23 ?_))
  refine Mk.grew_at hv ?_
  intro w2 hb2
  have HB : Hid (Below w.heap.size w w2) := Mk.grew_trans hb1 hb2
  clear hv hg1 hb1 hb2
  dsimp only
  go_wp2_with fail
  go_ret3
  exact ⟨rfl, HB.out⟩

theorem FV.has {w : World} {v d c s m mc p1 p2 : Nat} {x : Option Addr} (h : FV w v d c s m mc p1 p2 x) {B dm df : Nat} {dq : Value} {S : St} (hd : DI B w d dm df dq S) : VHas w v (S.N : Int) := ⟨d, h.row.made, hd.c0⟩

set_option maxHeartbeats 4000000 in
theorem allocNobody_walk (G B I n : Int) (w : World) : Calls Tryz.prog 4 #[Mk.geomV G B I, .int .i64 n] w fun e w' => e = .returned (.bool true) ∧ Below w.heap.size w w' := by
  obtain ⟨W1, hW1⟩ : ∃ W1, w.alloc (Mk.geomO G B I) = W1 := ⟨_, rfl⟩
  have hb1 : Below w.heap.size w W1 := by rw [← hW1]; exact Mk.grew_alloc _ _
  have hg1 : W1.heap[w.heap.size]? = some (Mk.geomO G B I) := by rw [← hW1]; exact at_new rfl
  have hs1 : W1.heap.size = w.heap.size + 1 := by rw [← hW1]; simp
  have z70 := zero70
  go_enter Tryz.func4, Tryz.ntmps4
  go_wp2_with fail
  have hT0 := two_vol W1 hb1 30
  have hG0 : ((W1.alloc vZ).alloc (.cells #[.pointer none, .pointer (some ⟨W1.heap.size, 0, none⟩)] 30)).heap[w.heap.size]? = some (Mk.geomO G B I) := at_old (at_old hg1)
  rw [hs1] at hT0 hG0
  clear hb1 hg1 hW1 hs1
  go_loopw [38] (fun i wr => ∃ j : Nat, j ≤ 2 ∧ i = .int .i64 (j : Int) ∧ Two w wr (w.heap.size + 1) 2 (.pointer none) ∧ wr.heap[w.heap.size]? = some (Mk.geomO G B I)) (fun i _ => 2 - (intOf i).toNat)
  case atStart => exact ⟨0, by omega, rfl, hT0, hG0⟩
  case round =>
    clear hT0 hG0
    obtain ⟨j, hj, rfl, hp, hg⟩ := hrel
    by_cases hlt : j < 2
    · obtain ⟨v, hv, hcell⟩ := hp.void hlt
      have HD := (show Hid _ from hv)
      have HT0 : Hid (Two w wr (w.heap.size + 1) 2 (.pointer none)) := hp
      have hjI : (j : Int) < 2 := by omega
      have hj0 : (0 : Int) ≤ (j : Int) := by omega
      clear hv hp
      go_wp2_with (first
        | (refine wpList_load_row rfl 34 (.tmp 2) rfl w.heap.size rfl 34 _ (0, 0) _ hg Tryz.underlying34 rfl Mk.info23 ?_))
      refine Mk.grew_at (header_void (G := G) (B := B) (I := I) (HD.out _ HT0.out) n) ?_
      intro u0 hb0
      obtain ⟨U0, hU0⟩ : ∃ U0, (u0.alloc (Mk.groupO 0 (Mk.zers 40))).setRow u0.heap.size (Mk.groupA 0 (Mk.zers 40)) = U0 := ⟨_, rfl⟩
      have hbU : Below wr.heap.size wr U0 := by rw [← hU0]; exact belowRow (hb0.alloc hb0.size _) hb0.size _
      have hgU := kept_row hg hbU
      have HTU : Hid (Two w U0 (w.heap.size + 1) 2 (.pointer none)) := HT0.out.kept hbU
      have HU : Hid ((u0.alloc (Mk.groupO 0 (Mk.zers 40))).setRow u0.heap.size (Mk.groupA 0 (Mk.zers 40)) = U0) := hU0
      clear hg hb0 hbU hU0 HT0
      dsimp only
      go_wp2_with (first
        | (refine wpList_store_row rfl 70 (.tmp 7) _ rfl u0.heap.size (Mk.groupA 0 (Mk.zers 40)) rfl rfl 70 _ (at_new rfl) (Mk.info38 _ _ (Mk.zers_len _)) rfl (Mk.group_one _ _) ?_; rw [HU.out])
        | (refine wpList_load_row rfl 34 (.tmp 2) rfl w.heap.size rfl 34 _ (0, 0) _ hgU Tryz.underlying34 rfl Mk.info23 ?_))
      refine Mk.grew_at (block_void (G := G) (B := B) (I := I) (HD.out _ HTU.out) n _) ?_
      intro u1 hb1
      have hg1 := kept_row hgU hb1
      have HT1 : Hid (Two w u1 (w.heap.size + 1) 2 (.pointer none)) := HTU.out.kept hb1
      clear hgU HTU hb1
      dsimp only
      go_wp2_with (first
        | (refine wpList_load_row rfl 34 (.tmp 2) rfl w.heap.size rfl 34 _ (0, 0) _ hg1 Tryz.underlying34 rfl Mk.info23 ?_))
      refine Mk.grew_at (inode_void (G := G) (B := B) (I := I) (HD.out _ HT1.out) n true) ?_
      intro u2 hb2
      have hg2 := kept_row hg1 hb2
      have HT2 : Hid (Two w u2 (w.heap.size + 1) 2 (.pointer none)) := HT1.out.kept hb2
      clear hg1 HT1 hb2
      dsimp only
      go_wp2_with (first
        | (refine wpList_load_row rfl 34 (.tmp 2) rfl w.heap.size rfl 34 _ (0, 0) _ hg2 Tryz.underlying34 rfl Mk.info23 ?_))
      refine Mk.grew_at (freeBlock_void (G := G) (B := B) (I := I) (HD.out _ HT2.out) n _) ?_
      intro u3 hb3
      have hg3 := kept_row hg2 hb3
      have HT3 : Hid (Two w u3 (w.heap.size + 1) 2 (.pointer none)) := HT2.out.kept hb3
      clear hg2 HT2 hb3
      dsimp only
      go_wp2_with (first
        | (refine wpList_load_row rfl 34 (.tmp 2) rfl w.heap.size rfl 34 _ (0, 0) _ hg3 Tryz.underlying34 rfl Mk.info23 ?_))
      refine Mk.grew_at (freeInode_void (G := G) (B := B) (I := I) (HD.out _ HT3.out) n _) ?_
      intro u4 hb4
      have hg4 := kept_row hg3 hb4
      have HT4 : Hid (Two w u4 (w.heap.size + 1) 2 (.pointer none)) := HT3.out.kept hb4
      clear hg3 HT3 hb4
      dsimp only
      go_wp2_with (first
        | (refine wpList_load_row rfl 34 (.tmp 2) rfl w.heap.size rfl 34 _ (0, 0) _ hg4 Tryz.underlying34 rfl Mk.info23 ?_))
      refine Mk.grew_at (hasBlock_void (G := G) (B := B) (I := I) (HD.out _ HT4.out) n) ?_
      intro u5 hb5
      have hg5 := kept_row hg4 hb5
      have HT5 : Hid (Two w u5 (w.heap.size + 1) 2 (.pointer none)) := HT4.out.kept hb5
      clear hg4 HT4 hb5
      dsimp only
      go_wp2_with (first
        | (refine wpList_load_row rfl 34 (.tmp 2) rfl w.heap.size rfl 34 _ (0, 0) _ hg5 Tryz.underlying34 rfl Mk.info23 ?_))
      refine Mk.grew_at (hasInode_void (G := G) (B := B) (I := I) (HD.out _ HT5.out) n) ?_
      intro u6 hb6
      have hg6 := kept_row hg5 hb6
      have HT6 : Hid (Two w u6 (w.heap.size + 1) 2 (.pointer none)) := HT5.out.kept hb6
      clear hg5 HT5 hb6
      dsimp only
      go_wp2_with (first
        | (refine wpList_load_row rfl 34 (.tmp 2) rfl w.heap.size rfl 34 _ (0, 0) _ hg6 Tryz.underlying34 rfl Mk.info23 ?_))
      refine Mk.grew_at (room_void (G := G) (B := B) (I := I) (HD.out _ HT6.out)) ?_
      intro u7 hb7
      have hg7 := kept_row hg6 hb7
      have HT7 : Hid (Two w u7 (w.heap.size + 1) 2 (.pointer none)) := HT6.out.kept hb7
      clear hg6 HT6 hb7
      dsimp only
      go_wp2_with fail
      obtain ⟨W8, hW8⟩ : ∃ W8, u7.alloc (.cells #[.int .i64 2, .int .i64 2, .int .i64 2, .int .i64 2, .int .i64 2, .int .i64 2, .int .i64 2, .int .i64 2] 39) = W8 := ⟨_, rfl⟩
      have hr8 : W8.heap[u7.heap.size]? = some (.cells #[.int .i64 2, .int .i64 2, .int .i64 2, .int .i64 2, .int .i64 2, .int .i64 2, .int .i64 2, .int .i64 2] 39 (0, 0)) := by rw [← hW8]; exact at_new rfl
      have hb8 : Below u7.heap.size u7 W8 := by rw [← hW8]; exact Mk.grew_alloc _ _
      have HT8 : Hid (Two w W8 (w.heap.size + 1) 2 (.pointer none) ∧ W8.heap[w.heap.size]? = some (Mk.geomO G B I)) := ⟨HT7.out.kept hb8, kept_row hg7 hb8⟩
      have hc8 : ∀ l : Nat, l < 8 → W8.cell? ⟨u7.heap.size, l, none⟩ = some (.int .i64 2) := fun l hl => by
        rw [cell_of_row _ _ l _ 39 _ hr8]
        rcases (by omega : l = 0 ∨ l = 1 ∨ l = 2 ∨ l = 3 ∨ l = 4 ∨ l = 5 ∨ l = 6 ∨ l = 7) with rfl | rfl | rfl | rfl | rfl | rfl | rfl | rfl <;> rfl
      rw [hW8]
      clear hr8 hb8 hg7 HT7 hW8
      go_loopw [110] (fun i w2 => ∃ l : Nat, l ≤ 8 ∧ i = .int .i64 (l : Int) ∧ w2 = W8) (fun i _ => 8 - (intOf i).toNat)
      case atStart => exact ⟨0, by omega, rfl, rfl⟩
      case round =>
        obtain ⟨l, hl, rfl, rfl⟩ := hrel
        by_cases hll : l < 8
        · have hlI : (l : Int) < 8 := by omega
          have hl0 : (0 : Int) ≤ (l : Int) := by omega
          have hcl := hc8 l hll
          clear hc8
          go_wp2_with fail
          go_roundw
          case rel => exact ⟨l + 1, by omega, by go_num, by first | rfl | trivial⟩
          case measure => simp [intOf]; omega
        · have hlI : ¬ (l : Int) < 8 := by omega
          go_wp2_with fail
          go_roundw
          case rel => exact ⟨j + 1, by omega, by go_num, HT8.out.1, HT8.out.2⟩
          case measure => simp [intOf]; omega
    · have hI2 : ¬ (j : Int) < 2 := by omega
      go_wp2_with fail
      refine Calls.mono (fresh1_ok wr) ?_
      rintro e w5 ⟨p, d, v, xd, y, c, s, m, mc, p1, p2, dm, df, B', rfl, hpr, hF, hLo, hBB, hD, hb5⟩
      obtain ⟨W6, hW6⟩ : ∃ W6, (w5.alloc (Mk.geomO 0 0 0)).setRow w5.heap.size #[.int .i64 1, .int .i64 8, .int .i64 4] = W6 := ⟨_, rfl⟩
      have hb6 : Below w5.heap.size w5 W6 := by rw [← hW6]; exact belowRow (Mk.grew_alloc _ _) (Nat.le_refl _) _
      have hv6 := (hF.has hD).kept hb6
      have hp6 := kept_row hpr hb6
      have c1 : W6.cell? ⟨p, 1, none⟩ = some (.pointer (some ⟨v, 0, none⟩)) := cell_of_row _ _ 1 _ 65 _ hp6
      have hbl := block_small hv6 (by decide) (by decide)
      have HB : Hid (Below w.heap.size w W6) := hp.b.trans ((hb5.trans (hb6.mono hb5.size)).mono hp.b.size)
      have H6 : Hid ((w5.alloc (Mk.geomO 0 0 0)).setRow w5.heap.size #[.int .i64 1, .int .i64 8, .int .i64 4] = W6) := hW6
      clear hLo hW6 hb6 hv6 hp6 hpr hF hD hBB hb5 hp hg
      dsimp only
      go_wp2_with (first
        | (refine wpList_store_row rfl 34 (.tmp 29) _ rfl w5.heap.size #[.int .i64 1, .int .i64 8, .int .i64 4] rfl rfl 34 _ (at_new rfl) Mk.info23 rfl geom_one ?_; rw [H6.out]))
      refine Mk.grew_at hbl ?_
      intro w7 hb7
      clear hbl c1
      dsimp only
      go_wp2_with fail
      go_ret
      exact ⟨rfl, Mk.grew_trans HB.out hb7⟩
end Go.Proofs.YtomkhipdcjnkhaaGreat

/- A cache without buffers: oldest, fetch, use, Get. -/
namespace Go.Proofs.YtomkhipdcjnkhaaGreat
open Go.RowKit Go.Maps Go.MuLone
set_option linter.unusedVariables false
set_option maxRecDepth 100000

theorem bm_of {w : World} {mc : Nat} (h : w.heap[mc]? = some (.map #[] 0)) : Bm w mc [] := by
  have hlt := (Array.getElem?_eq_some_iff.1 h).1
  have hs : (w.heap.extract 0 mc).size = mc := by simp; omega
  have hb := bm_made { w with heap := w.heap.extract 0 mc }
  have e : ({ w with heap := w.heap.extract 0 mc } : World).heap.size = mc := hs
  rw [e] at hb
  exact hb.kept (h.trans (at_new (w := { w with heap := w.heap.extract 0 mc }) e.symm).symm)

set_option maxHeartbeats 1000000 in
theorem oldest_none {w : World} {c mc : Nat} (hc : w.cell? ⟨c, 2, none⟩ = some (.map (some mc))) (hm : w.heap[mc]? = some (.map #[] 0)) : Calls Tryz.prog 367 #[.pointer (some ⟨c, 0, none⟩)] w fun e w' => e = .returned (.tuple #[.int .i64 0, .bool false]) ∧ Below w.heap.size w w' := by
  obtain ⟨D, ho, hs, hk, _⟩ := (bm_of hm).ex
  have hno : ∀ x, has D x = false := fun x => by
    cases e : has D x with
    | false => rfl
    | true => obtain ⟨p, hp, _⟩ := hk x e; cases hp
  clear hm hk hs
  go_enter Tryz.func367, Tryz.ntmps367
  go_wp2_with (at_range; refine wpList_range_own w rfl (.tmp 11) 414 rfl 3 424 keyed3 Tryz.underlying414 ptrR mc (size D) D rfl ho ?_; intro w1 hr1 hg1 hs1)
  have HB : Hid (Below w.heap.size w w1) := (Below.refl _ w).grown hg1 (Nat.le_refl _) (fun k hk => by cases hk)
  clear hg1 hs1 ho
  go_frame
  go_loopw [4, 5] (fun a b wr => a = .int .i64 0 ∧ b = .bool false ∧ wr = w1) (fun _ _ _ => 0)
  case atStart => exact ⟨rfl, rfl, rfl⟩
  case round =>
    obtain ⟨rfl, rfl, rfl⟩ := hrel
    go_wp2_with (at_next; refine wpList_next_ranges (α := Value) (β := Value) _ rfl (.tmp 12) rfl 3 keyed3 ptrR id id (fun key _ _ => ⟨key, rfl⟩) (fun v _ _ => ⟨v, rfl⟩) mc w.heap.size (size D) D (has D) (size D) rfl hr1 ?_ ?_; rotate_left 1; (intro x c kl y w' cnt' _ hl _ _ _ _ _ _ _; rw [hno kl] at hl; cases hl); intro _ _)
    go_ret2
    exact ⟨rfl, HB.out⟩

set_option maxHeartbeats 400000 in
theorem sclone_some (a : Addr) (n c : Nat) (xs : List Int) (w : World) (h : BI w (some a) n xs) :
    Calls Tryz.prog 204 #[.slice (some a) n c] w fun e w' => ∃ g cap, e = .returned (.slice (some ⟨g, 0, none⟩) n cap) ∧ Own w.heap.size w' g n cap xs ∧ Below w.heap.size w w' := by
  obtain ⟨i0, hi, hz0, hz1, hz2⟩ := info_parts info5
  have hbig := h.big
  have hlen := h.len
  have q22 := eqlNil
  have hb0 := (Below.refl w.heap.size w).alloc (Nat.le_refl _) (Obj.cells #[] 5)
  go_enter Tryz.func204, Tryz.ntmps204
  go_wp2_with (at_builtin; refine wpList_append_own _ rfl _ _ 38 rfl w.heap.size 5 i0 (.int .u8 0) 1 1 Tryz.underlying38 hi hz0 hz1 hz2 rfl (by decide) _ _ _ rfl (World.ownsRow_made w #[] 0 (Nat.le_refl _) (Nat.zero_le _) rfl) a n c (xs.map (Value.int .u8)) rfl ?c1 ?c2 ?c3 ?c4 ?c5 ?c6 ?_)
  case c1 => simp [hlen]
  case c2 => exact (h.kept hb0).src'
  case c3 => exact one_cells xs
  case c4 => unfold maxLen; omega
  case c5 => omega
  case c6 => simp
  intro v' w1 hown hgrow hnil
  obtain ⟨g, cap, hv, ho⟩ := own_shape hown (by first | exact hnil | (intro e; exact absurd (hnil.1 e).1 (by simp)))
  rw [hv]
  clear hown hnil
  have hb1 := hb0.grown hgrow (by simp) (by intro k hk; simp [Value.ownBlock] at hk; omega)
  go_wp2
  go_ret
  exact ⟨g, cap, rfl, ho, hb1⟩

/-- A buffer's cells. -/
def bfL (xs : List Int) (u : Int) : List Value := xs.map (Value.int .u8) ++ [.int .i64 u, .int .i64 0]
theorem zero469 : Tryz.zeroCells469 = (bfL zer 0).toArray := by kernel_rfl
theorem bf_splice (xs : List Int) (hs : Sect xs) : splice (bfL zer 0) 0 (xs.map (Value.int .u8)) = bfL xs 0 := by
  have hl := hs.1
  unfold splice bfL
  simp [hl, zer_len]
theorem below_dN {n : Nat} {w w' : World} (h : Below n w w') (q : Nat) : Below n w (w'.drewN q) := ⟨h.os, h.tape, h.output, h.size, h.block⟩

set_option maxHeartbeats 4000000 in
theorem fetch_new {B : Nat} {w : World} {c mc d dm df : Nat} {dq : Value} {S : St} {hi mi : Int} (hc : w.heap[c]? = some (.cells #[.pointer (some ⟨d, 0, none⟩), .int .i64 64, .map (some mc), .int .i64 hi, .int .i64 mi] 416 (0, 0))) (hm : w.heap[mc]? = some (.map #[] 0)) (hD : DI B w d dm df dq S) (b : Nat) (hb : b < S.N) (h0 : S.fl b = 0) (hsx : Sect (S.f b)) :
    Calls Tryz.prog 313 #[.pointer (some ⟨c, 0, none⟩), .int .i64 (b : Int)] w fun e w' => ∃ g, e = .returned (.int .i64 0) ∧ w.heap.size ≤ g ∧ w'.heap[g]? = some (.cells (bfL (S.f b) 0).toArray 469 (0, 0)) ∧ Bm w' mc [(b, g)] ∧ Frame (fun k => k = mc) w w' := by
  have hN := hD.N2
  have c2 : w.cell? ⟨c, 2, none⟩ = some (.map (some mc)) := cell_of_row _ _ 2 _ 416 _ hc
  have c1 : w.cell? ⟨c, 1, none⟩ = some (.int .i64 64) := cell_of_row _ _ 1 _ 416 _ hc
  have hlen : ∀ q, (Builtin.len_ #[414] 3 #[.map (some mc)]).run Tryz.prog (w.drewN q) = .ok (.int .i64 0) (w.drewN q) := fun q => by
    obtain ⟨D, ho, hs, _⟩ := (bm_of (w := w.drewN q) hm).ex
    rw [ho.len Tryz.underlying414 3, hs]
    simp
  have hold := fun q => oldest_none (w := w.drewN q) c2 hm
  have HO := (show Hid _ from hold)
  have HC : Hid (w.heap[c]? = some (.cells #[.pointer (some ⟨d, 0, none⟩), .int .i64 64, .map (some mc), .int .i64 hi, .int .i64 mi] 416 (0, 0)) ∧ w.heap[mc]? = some (.map #[] 0) ∧ DI B w d dm df dq S) := ⟨hc, hm, hD⟩
  clear hold hc hm hD
  go_enter Tryz.func313, Tryz.ntmps313
  go_wp2_with fail
  go_quiet (fail)
  go_upto_region 10 with (first
    | (go_at_call 367; refine Calls.mono (HO.out _) ?_; rintro e w1 ⟨rfl, hb1⟩; have hb1 := (below_dN (Below.refl w.heap.size w) nq).trans (hb1.mono (Nat.le_refl _)); have c0 : w1.cell? ⟨c, 0, none⟩ = some (.pointer (some ⟨d, 0, none⟩)) := cell_of_row _ _ 0 _ 416 _ (kept_row HC.out.1 hb1); have hrd := read_ok (HC.out.2.2.later hb1) b hb h0)
    | (go_at_call 368; refine Calls.mono hrd ?_; rintro e w3 ⟨gx, rfl, hown, hb2⟩; have hb3 := hb1.trans (hb2.mono hb1.size)))
  have hx3 : BI w3 (some ⟨gx, 0, none⟩) 128 (S.f b) := hown.bi (by omega) hsx.2
  have HB3 : Hid (Below w.heap.size w w3) := hb3
  have hz469 := zero469
  have hrow4 : (w3.alloc (.cells Tryz.zeroCells469 469)).heap[w3.heap.size]? = some (.cells (bfL zer 0).toArray 469 (0, 0)) := by
    rw [hz469]; exact heap_alloc_new w3 _
  have hb4 : Below w3.heap.size w3 (w3.alloc (.cells Tryz.zeroCells469 469)) := (Below.refl _ _).alloc (Nat.le_refl _) _
  clear hlen c0 c1 c2 HO hrd hz469 hown hb1 hb2 hb3
  go_wp2_with (first
    | (refine wpList_copy_splice rfl _ _ 38 38 rfl 5 Tryz.underlying38 size5 _ _ _ _ _ _ rfl rfl w3.heap.size 0 _ 469 hrow4 ((S.f b).map (Value.int .u8)) ?c1 ?c2 ?c3 ?c4 w3.heap.size w3 hb4 (Nat.le_refl _) ?_))
  case c1 => simp [hsx.1]
  case c2 =>
    intro hp
    obtain ⟨b', o', e, hcc⟩ := (hx3.kept hb4).cells (by omega)
    cases e
    first
      | (refine ⟨rfl, _, rfl, fun j a hj => ?_⟩
         have hjl := (List.getElem?_eq_some_iff.1 hj).1
         have := hcc j (by rw [← hsx.1]; simpa using hjl)
         rw [Nat.zero_add] at this
         rw [Addr.add_mid, Nat.zero_add, this]
         rw [List.getElem?_map] at hj
         cases hg : (S.f b)[j]? with
         | none => rw [hg] at hj; cases hj
         | some y => rw [hg] at hj; simp at hj; rw [← hj, List.getD_eq_getElem?_getD, hg]; rfl)
      | (intro j a hj
         have hjl := (List.getElem?_eq_some_iff.1 hj).1
         have := hcc j (by rw [← hsx.1]; exact hjl)
         rw [Nat.zero_add, List.getD_eq_getElem?_getD, hj] at this
         exact this)
  case c3 => simp [bfL, zer_len, hsx.1]
  case c4 => exact one_cells _
  intro w5 hg5 hb5
  have hrow5 := hg5.out
  rw [bf_splice (S.f b) hsx] at hrow5
  have hb15 : Below w.heap.size w w5 := HB3.out.trans (hb5.mono HB3.out.size)
  have hm5 := kept_row HC.out.2.1 hb15
  obtain ⟨w6, hr6, hm6, hg6⟩ := (bm_of hm5).update b w3.heap.size (fun p hp => by cases hp) (by omega) (by simp)
  have c2 : w5.cell? ⟨c, 2, none⟩ = some (.map (some mc)) := cell_of_row _ _ 2 _ 416 _ (kept_row HC.out.1 hb15)
  have hne : w3.heap.size ≠ mc := by
    have h1 := HB3.out.size
    have h2 := (Array.getElem?_eq_some_iff.1 HC.out.2.1).1
    omega
  have HF : Hid (w.heap.size ≤ w3.heap.size ∧ w6.heap[w3.heap.size]? = some (.cells (bfL (S.f b) 0).toArray 469 (0, 0)) ∧ Bm w6 mc [(b, w3.heap.size)] ∧ Frame (fun k => k = mc) w w6) :=
    ⟨HB3.out.size, (hg6.block _ (Array.getElem?_eq_some_iff.1 hrow5).1 (by simpa using hne)).trans hrow5, by simpa using hm6, (frame_of_below hb15).trans (frame_of_grown hg6 (fun k hk => by cases hk; rfl))⟩
  clear hm6 hrow5 hrow4 hg5 hm5
  go_wp2_with fail
  go_ret
  obtain ⟨f1, f2, f3, f4⟩ := HF.out
  first
    | exact ⟨w3.heap.size, rfl, f1, f2, f3, f4⟩
    | exact ⟨rfl, w3.heap.size, f1, f2, f3, f4⟩
end Go.Proofs.YtomkhipdcjnkhaaGreat

/- A cache without buffers: use, Get of a block. -/
namespace Go.Proofs.YtomkhipdcjnkhaaGreat
open Go.RowKit Go.Maps Go.MuLone
set_option linter.unusedVariables false
set_option maxRecDepth 100000

abbrev cRow (d mc : Nat) (hi mi : Int) : Obj := .cells #[.pointer (some ⟨d, 0, none⟩), .int .i64 64, .map (some mc), .int .i64 hi, .int .i64 mi] 416
theorem row_ne2 {w : World} {b b' : Nat} {o o' : Obj} (h : w.heap[b]? = some o) (h' : w.heap[b']? = some o') (hn : o ≠ o') : b ≠ b' := by
  rintro rfl
  rw [h] at h'
  cases h'
  exact hn rfl
theorem bfL_u (xs : List Int) (hs : Sect xs) (u v : Int) : (bfL xs u).toArray.setIfInBounds 128 (.int .i64 v) = (bfL xs v).toArray := by
  have hl := hs.1
  unfold bfL
  rw [List.setIfInBounds_toArray]
  congr 1
  rw [List.set_append_right _ _ (by simp; omega)]
  simp [hl]
theorem bfL_128 (xs : List Int) (hs : Sect xs) (u : Int) : (bfL xs u).toArray[128]? = some (.int .i64 u) := by
  have hl := hs.1
  unfold bfL
  rw [List.getElem?_toArray, List.getElem?_append_right (by simp; omega)]
  simp [hl]
theorem bf_bi {w : World} {g : Nat} {xs : List Int} {u : Int} (h : w.heap[g]? = some (.cells (bfL xs u).toArray 469 (0, 0))) (hs : Sect xs) : BI w (some ⟨g, 0, none⟩) 128 xs := by
  refine ⟨hs.1, by omega, hs.2, fun _ => ⟨g, 0, rfl, fun i hi => ?_⟩⟩
  have hl := hs.1
  rw [Nat.zero_add, cell_of_row _ _ i _ 469 _ h]
  unfold bfL
  rw [List.getElem?_toArray, List.getElem?_append_left (by simp; omega), List.getElem?_map, List.getD_eq_getElem?_getD, List.getElem?_eq_getElem (by omega)]
  rfl

set_option maxHeartbeats 2000000 in
theorem use_new {w : World} {c mc d g b : Nat} {xs : List Int} (hc : w.heap[c]? = some (cRow d mc 0 1)) (hm : Bm w mc [(b, g)]) (hg : w.heap[g]? = some (.cells (bfL xs 0).toArray 469 (0, 0))) (hs : Sect xs) (hb : b < 2048) :
    Calls Tryz.prog 312 #[.pointer (some ⟨c, 0, none⟩), .int .i64 (b : Int)] w fun e w' => ∃ x cap, e = .returned (.slice (some ⟨x, 0, none⟩) 128 cap) ∧ Own w.heap.size w' x 128 cap xs ∧ Frame (fun k => k = g) w w' := by
  have c2 : w.cell? ⟨c, 2, none⟩ = some (.map (some mc)) := cell_of_row _ _ 2 _ 416 _ hc
  have hlk := hm.hit (b, g) (by simp) (by show b < _; omega)
  have k3 : w.drew.cell? ⟨c, 3, none⟩ = some (.int .i64 0) := cell_of_row _ _ 3 _ 416 _ hc
  have k4 : w.drew.cell? ⟨c, 4, none⟩ = some (.int .i64 1) := cell_of_row _ _ 4 _ 416 _ hc
  have k3' : w.cell? ⟨c, 3, none⟩ = some (.int .i64 0) := cell_of_row _ _ 3 _ 416 _ hc
  have k4' : w.cell? ⟨c, 4, none⟩ = some (.int .i64 1) := cell_of_row _ _ 4 _ 416 _ hc
  have b1' : w.cell? ⟨g, 128, none⟩ = some (.int .i64 0) := by rw [cell_of_row _ _ 128 _ 469 _ hg, bfL_128 _ hs]
  have b1 : w.drew.cell? ⟨g, 128, none⟩ = some (.int .i64 0) := b1'
  have f1' : w.frozen? ⟨g, 128, none⟩ = false := by simp [World.frozen?, hg]
  have f1 : w.drew.frozen? ⟨g, 128, none⟩ = false := f1'
  have hrow2 : (w.setCell ⟨g, 128, none⟩ (.int .i64 1)).drew.heap[g]? = some (.cells (bfL xs 1).toArray 469 (0, 0)) := by
    have := heap_setCell_same w g 128 _ 469 (.int .i64 1) hg
    rw [bfL_u _ hs] at this
    exact this
  have hcl := fun cc => sclone_some ⟨g, 0, none⟩ 128 cc xs (w.setCell ⟨g, 128, none⟩ (.int .i64 1)).drew (bf_bi hrow2 hs)
  have HF : Hid (Frame (fun k => k = g) w (w.setCell ⟨g, 128, none⟩ (.int .i64 1)).drew ∧ w.heap.size = (w.setCell ⟨g, 128, none⟩ (.int .i64 1)).drew.heap.size) := ⟨⟨rfl, rfl, rfl, by simp, fun k hk hn => Below.heap_setCell _ _ _ _ hn⟩, by simp⟩
  clear hm hc hg hrow2
  go_enter Tryz.func312, Tryz.ntmps312
  go_wp2_with fail
  go_region
  all_goals go_wp2_with fail
  refine Calls.mono (hcl _) ?_
  rintro e w2 ⟨x, cap, rfl, ho, hb2⟩
  have HX : Hid (Own w.heap.size w2 x 128 cap xs ∧ Frame (fun k => k = g) w w2) := ⟨by rw [HF.out.2]; exact ho, HF.out.1.trans (frame_of_below hb2)⟩
  clear hcl ho hb2
  dsimp only
  go_wp2_with fail
  go_ret
  exact ⟨x, cap, rfl, HX.out.1, HX.out.2⟩

set_option maxHeartbeats 400000 in
theorem crefusal_ok {B : Nat} {w : World} {c mc d dm df : Nat} {dq : Value} {S : St} {hi mi : Int} (hc : w.heap[c]? = some (cRow d mc hi mi)) (hD : DI B w d dm df dq S) (b : Nat) (hb : b < S.N) : Calls Tryz.prog 311 #[.pointer (some ⟨c, 0, none⟩), .int .i64 (b : Int)] w fun e w' => e = .returned (.int .i64 0) ∧ w' = w := by
  have c0 : w.cell? ⟨c, 0, none⟩ = some (.pointer (some ⟨d, 0, none⟩)) := cell_of_row _ _ 0 _ 416 _ hc
  have hbl := blocks_ok hD
  have hm : Calls Tryz.prog 366 #[.pointer (some ⟨c, 0, none⟩)] w fun e w' => e = .returned (.bool true) ∧ w' = w := by
    clear hbl
    go_enter Tryz.func366, Tryz.ntmps366
    go_wp2
    go_ret
    exact ⟨rfl, rfl⟩
  have d1 : ¬ ((b : Int) < 0) := by omega
  have d2 : ¬ ((S.N : Int) ≤ (b : Int)) := by omega
  clear hc hD
  go_enter Tryz.func311, Tryz.ntmps311
  go_wp2_with (first
    | (go_at_call 366; refine same_at hm ?_)
    | (go_at_call 112; refine same_at hbl ?_))
  go_ret
  exact ⟨rfl, rfl⟩

set_option maxHeartbeats 4000000 in
theorem get_new {B : Nat} {w : World} {c mc d dm df : Nat} {dq : Value} {S : St} (hc : w.heap[c]? = some (cRow d mc 0 0)) (hm : w.heap[mc]? = some (.map #[] 0)) (hD : DI B w d dm df dq S) (hcd : ¬ foot d dm df dq c) (b : Nat) (hb : b < S.N) (h0 : S.fl b = 0) (hsx : Sect (S.f b)) :
    Calls Tryz.prog 222 #[.pointer (some ⟨c, 0, none⟩), .int .i64 (b : Int)] w fun e w' => ∃ x cap, e = .returned (.tuple #[.slice (some ⟨x, 0, none⟩) 128 cap, .int .i64 0]) ∧ Own w.heap.size w' x 128 cap (S.f b) ∧ Frame (fun k => k = c ∨ k = mc) w w' := by
  have hN := hD.N2
  have hrf := crefusal_ok hc hD b hb
  have c2 : w.cell? ⟨c, 2, none⟩ = some (.map (some mc)) := cell_of_row _ _ 2 _ 416 _ hc
  have c4 : w.cell? ⟨c, 4, none⟩ = some (.int .i64 0) := cell_of_row _ _ 4 _ 416 _ hc
  have f4 : w.frozen? ⟨c, 4, none⟩ = false := by simp [World.frozen?, hc]
  have hlk := (bm_of hm).miss b (fun p hp => by cases hp) (by omega)
  have hne : mc ≠ c := row_ne2 hm hc (by simp)
  obtain ⟨W1, hW1⟩ : ∃ W1, w.setCell ⟨c, 4, none⟩ (.int .i64 1) = W1 := ⟨_, rfl⟩
  have hc1 : W1.heap[c]? = some (cRow d mc 0 1) := by rw [← hW1]; exact heap_setCell_same w c 4 _ 416 _ hc
  have so : ∀ k, k ≠ c → W1.heap[k]? = w.heap[k]? := fun k hk => by rw [← hW1]; exact Below.heap_setCell _ _ _ _ hk
  have hm1 : W1.heap[mc]? = some (.map #[] 0) := (so mc hne).trans hm
  have hD1 : DI B W1 d dm df dq S := hD.kept (fun k hk => so k (fun e => hcd (e ▸ hk)))
  have hsz : W1.heap.size = w.heap.size := by rw [← hW1]; simp
  have hft := fetch_new hc1 hm1 hD1 b hb h0 hsx
  have H1 : Hid (W1.heap[c]? = some (cRow d mc 0 1) ∧ W1.heap.size = w.heap.size ∧ Frame (fun k => k = c ∨ k = mc) w W1 ∧ c ≠ mc) := ⟨hc1, hsz, by rw [← hW1]; exact Frame.setCell _ _ (.inl rfl), hne.symm⟩
  have HW : Hid (w.setCell ⟨c, 4, none⟩ (.int .i64 1) = W1) := hW1
  clear hc hm hD hcd hc1 hm1 hD1 so hsz hne
  go_enter Tryz.func222, Tryz.ntmps222
  go_wp2_with (first | (go_at_call 311; refine same_at hrf ?_))
  refine Calls.mono hft ?_
  rintro e w3 ⟨g, rfl, hgl, hgr, hbm, hfr⟩
  have hc3 : w3.heap[c]? = some (cRow d mc 0 1) := (hfr.block c (Array.getElem?_eq_some_iff.1 H1.out.1).1 H1.out.2.2.2).trans H1.out.1
  have hus := use_new hc3 hbm hgr hsx (by omega)
  have H3 : Hid (w.heap.size ≤ g ∧ Frame (fun k => k = c ∨ k = mc) w w3 ∧ w.heap.size ≤ w3.heap.size) := ⟨by rw [← H1.out.2.1]; exact hgl, H1.out.2.2.1.trans (hfr.mono (fun k _ hk => .inr hk)), by have := hfr.size; have := H1.out.2.1; omega⟩
  clear hft hgl hgr hbm hfr hc3 hrf hlk c2 c4 f4
  dsimp only
  go_wp2_with fail
  refine Calls.mono hus ?_
  rintro e w4 ⟨x, cap, rfl, ho, hfr4⟩
  have H4 : Hid (Own w.heap.size w4 x 128 cap (S.f b) ∧ Frame (fun k => k = c ∨ k = mc) w w4) := by
    refine ⟨ho.base H3.out.2.2, ⟨hfr4.os.trans H3.out.2.1.os, hfr4.tape.trans H3.out.2.1.tape, hfr4.output.trans H3.out.2.1.output, Nat.le_trans H3.out.2.1.size hfr4.size, fun k hk hn => ?_⟩⟩
    rw [hfr4.block k (Nat.lt_of_lt_of_le hk H3.out.2.1.size) (by have := H3.out.1; omega), H3.out.2.1.block k hk hn]
  clear hus ho hfr4
  dsimp only
  go_wp2_with fail
  go_ret2
  exact ⟨x, cap, rfl, H4.out.1, H4.out.2⟩
end Go.Proofs.YtomkhipdcjnkhaaGreat
