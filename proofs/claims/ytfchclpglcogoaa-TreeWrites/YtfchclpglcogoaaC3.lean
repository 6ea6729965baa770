/- content: write. -/
import Derived.Test.YtfchclpglcogoaaC2
namespace Go.Proofs.Ytfchclpglcogoaa
open Go.RowKit Go.Maps
set_option linter.unusedVariables false
set_option maxRecDepth 100000

/-- The pieces of a file's bytes, as a map has them. -/
def pcF (xs : List Int) : Int → Option Value := fun k => if 0 ≤ k then pV (pcL xs k.toNat) else none
theorem pcF_at (xs : List Int) (a : Nat) : pcF xs (a : Int) = pV (pcL xs a) := by unfold pcF; rw [if_pos (by omega)]; simp
/-- Only blocks of X have turned. -/
structure Fr (X : Nat → Prop) (w w' : World) : Prop where
  os : w'.os = w.os
  tape : w'.tape = w.tape
  output : w'.output = w.output
  size : w.heap.size ≤ w'.heap.size
  block : ∀ k, k < w.heap.size → ¬ X k → w'.heap[k]? = w.heap[k]?
theorem Fr.refl (X : Nat → Prop) (w : World) : Fr X w w := ⟨rfl, rfl, rfl, Nat.le_refl _, fun _ _ _ => rfl⟩
theorem Fr.trans {X : Nat → Prop} {a b c : World} (h : Fr X a b) (k : Fr X b c) : Fr X a c := ⟨k.os.trans h.os, k.tape.trans h.tape, k.output.trans h.output, Nat.le_trans h.size k.size, fun i hi hn => (k.block i (Nat.lt_of_lt_of_le hi h.size) hn).trans (h.block i hi hn)⟩
theorem Fr.below {X : Nat → Prop} {a b : World} (h : Below a.heap.size a b) : Fr X a b := ⟨h.os, h.tape, h.output, h.size, fun i hi _ => h.block i hi⟩
theorem Fr.grown {X : Nat → Prop} {a b : World} {m : Nat} (h : a.grownBy b (some m)) (hm : X m) : Fr X a b := ⟨h.os, h.tape, h.output, h.size, fun i hi hn => h.block i hi (fun e => hn (by have := Option.some.inj e; subst this; exact hm))⟩

/-- The next bytes laid. -/
theorem pcF_step {xs b : List Int} {off d a r k : Nat} (hd : d + k ≤ b.length) (hk : r + k ≤ 128) (he : off + d = a * 128 + r) (x : Int) : pcF (wrt xs off (b.take (d + k))) x = fput (pcF (wrt xs off (b.take d))) (a : Int) (pV (spl (pcL (wrt xs off (b.take d)) a) r ((b.drop d).take k))) x := by
  by_cases hx : x = (a : Int)
  · subst hx
    rw [fput_same, pcF_at, step_same hd hk he]
  · rw [fput_other _ hx]
    unfold pcF
    by_cases h0 : 0 ≤ x
    · rw [if_pos h0, if_pos h0, step_other hd hk he (by omega)]
    · rw [if_neg h0, if_neg h0]

/-- Block f is a file's node that has the bytes xs; its pieces stand in the map pm. -/
structure CT (w : World) (f pm N : Nat) (v0 v1 v2 v3 : Value) (xs : List Int) : Prop where
  row : w.heap[f]? = some (.cells #[v0, v1, v2, v3, .int .i64 (xs.length : Int), .map (some pm)] 58 (0, 0))
  mf : Mf kI w pm N (pcF xs)
  byt : Num.Byt xs
section
variable {w w' : World} {f pm N : Nat} {v0 v1 v2 v3 : Value} {xs : List Int}
theorem CT.c4 (h : CT w f pm N v0 v1 v2 v3 xs) : w.cell? ⟨f, 4, none⟩ = some (.int .i64 (xs.length : Int)) := cell_of_row w f 4 _ 58 _ h.row
theorem CT.c5 (h : CT w f pm N v0 v1 v2 v3 xs) : w.cell? ⟨f, 5, none⟩ = some (.map (some pm)) := cell_of_row w f 5 _ 58 _ h.row
theorem CT.ne (h : CT w f pm N v0 v1 v2 v3 xs) : f ≠ pm := by
  rintro rfl
  obtain ⟨es, c, hm⟩ := h.mf.isMap
  rw [h.row] at hm
  cases hm
theorem CT.kept (h : CT w f pm N v0 v1 v2 v3 xs) (hb : Below w.heap.size w w') : CT w' f pm N v0 v1 v2 v3 xs :=
  ⟨(hb.block f (Array.getElem?_eq_some_iff.1 h.row).1).trans h.row, h.mf.kept (hb.block pm h.mf.lt), h.byt⟩

theorem pcL_byt (h : Num.Byt xs) (a : Nat) : Num.Byt (pcL xs a) := by
  intro i
  by_cases hi : i < 128
  · rw [pcL_at _ _ _ hi]; exact h _
  · rw [getD_past (by rw [pcL_len]; omega)]; omega
theorem wrt_byt {b : List Int} (h : Num.Byt xs) (hb : Num.Byt b) (off : Nat) : Num.Byt (wrt xs off b) := by
  intro i
  rw [wrt_at]
  split
  · exact hb _
  · exact h _
theorem zeroV94 (w : World) : (zeroValue 94).run Try.prog w = .ok (.agg (aP zz)) w := by rw [← zero94]; kernel_rfl
/-- What a look-up of a piece gives. -/
theorem CT.piece (h : CT w f pm N v0 v1 v2 v3 xs) (a : Nat) (ha : a ≤ 100000) : (Instr.lookup 54 (.map (some pm)) (.int .i64 (a : Int)) false).run Try.prog w = .ok (.agg (aP (pcL xs a))) w := by
  obtain ⟨d, hd⟩ := aP_vR zz
  have hg := h.mf.get (t := 54) (e := 94) Try.underlying54 (zeroV94 w) hd (a : Int) ⟨by omega, by omega⟩
  rw [pcF_at] at hg
  simp only [kI] at hg
  rw [hg]
  unfold pV
  split
  · rename_i e; rw [e]; rfl
  · rfl

set_option maxHeartbeats 4000000 in
theorem cwrite_ok (h : CT w f pm N v0 v1 v2 v3 xs) (off : Nat) (p : Option Addr) (n c : Nat) (b : List Int) (hb : BI w p n b) (hcap : n ≤ c ∧ c ≤ 9223372036854775807) (hp : ∀ g o, p = some ⟨g, o, none⟩ → g ≠ f ∧ g ≠ pm) (hn : off + n ≤ 532992) (hN : N ≤ 100000000000) :
    Calls Try.prog 36 #[.pointer (some ⟨f, 4, none⟩), .int .i64 (off : Int), .slice p n c] w fun e w' => e = .returned (.tuple #[]) ∧ CT w' f pm (N + n) v0 v1 v2 v3 (wrt xs off b) ∧ Fr (fun k => k = f ∨ k = pm) w w' := by
  have hbl := hb.len
  have hbb := hb.byt
  have hne := h.ne
  go_enter Try.func36, Try.ntmps36
  go_wp2_with fail
  go_loopw [6] (fun iv wr => ∃ (d : Nat) (N' : Nat), d ≤ n ∧ iv = .int .i64 (d : Int) ∧ CT wr f pm N' v0 v1 v2 v3 (wrt xs off (b.take d)) ∧ N' ≤ N + d ∧ Fr (fun k => k = f ∨ k = pm) w wr) (fun iv _ => n - (intOf iv).toNat)
  case atStart => exact ⟨0, N, by omega, rfl, by rw [List.take_zero, wrt_nil]; exact h, by omega, Fr.refl _ _⟩
  case round =>
    obtain ⟨d, N', hd, rfl, hC, hN', hF⟩ := hrel
    by_cases hlt : d < n
    · obtain ⟨bb, bo, rfl, hc0⟩ := hb.cells (by omega)
      have hbr : BI wr (some ⟨bb, bo, none⟩) n b := bi_same hb (fun g o e _ => by
        cases e
        obtain ⟨h1, h2⟩ := hp bb bo rfl
        exact hF.block bb (lt_of_cell (hc0 0 (by omega))) (fun h => h.elim h1 h2))
      obtain ⟨t, ht⟩ : ∃ t, t = off + d := ⟨_, rfl⟩
      obtain ⟨a, ha⟩ : ∃ a, a = t / 128 := ⟨_, rfl⟩
      obtain ⟨r, hr⟩ : ∃ r, r = t % 128 := ⟨_, rfl⟩
      obtain ⟨k, hk⟩ : ∃ k, k = min (128 - r) (n - d) := ⟨_, rfl⟩
      have he : off + d = a * 128 + r := by omega
      have hw1 : IntKind.i64.wrap ((off : Int) + (d : Int)) = (t : Int) := by rw [IntWalk.i64_in _ (by omega)]; omega
      have hw0 : (off : Int) + (d : Int) = (t : Int) := by omega
      have hq1 : (t : Int).tdiv 128 = (a : Int) := by rw [Int.tdiv_eq_ediv_of_nonneg (by omega)]; omega
      have hq3 : (t : Int) / 128 = (a : Int) := by omega
      have hq2 : IntKind.i64.wrap ((t : Int).tdiv 128) = (a : Int) := by rw [hq1]; exact IntWalk.i64_in _ (by omega)
      have hm1 : (t : Int).tmod 128 = (r : Int) := by rw [Int.tmod_eq_emod_of_nonneg (by omega)]; omega
      have hm3 : (t : Int) % 128 = (r : Int) := by omega
      have hm2 : IntKind.i64.wrap ((t : Int).tmod 128) = (r : Int) := by rw [hm1]; exact IntWalk.i64_in _ (by omega)
      have hwt : IntKind.i64.wrap (t : Int) = (t : Int) := IntWalk.i64_in _ (by omega)
      have hpc := hC.piece a (by omega)
      have c5 := hC.c5
      have hdI : (d : Int) < (n : Int) := by omega
      have HA : Hid (t = off + d ∧ a = t / 128 ∧ r = t % 128 ∧ k = min (128 - r) (n - d) ∧ off + d = a * 128 + r ∧ b.length = n ∧ off + n ≤ 532992 ∧ d < n ∧ r < 128) := ⟨ht, ha, hr, hk, he, hbl, hn, hlt, by omega⟩
      obtain ⟨P0, hP0⟩ : ∃ P0, P0 = pcL (wrt xs off (b.take d)) a := ⟨_, rfl⟩
      rw [← hP0] at hpc
      have hPl : P0.length = 128 := by rw [hP0]; exact pcL_len _ _
      have HP : Hid (P0 = pcL (wrt xs off (b.take d)) a) := hP0
      have hs0 := aP_size hPl
      have hi94 : (Try.prog.info? 94).map (·.size) = some (aP P0).size := by rw [hs0]; exact info94
      have hold : Try.zeroCells94.size = (aP P0).size := by rw [hs0]; rfl
      have hone := aP_one P0
      obtain ⟨W3, hW3⟩ : ∃ W3, (wr.alloc (.cells Try.zeroCells94 94)).setRow wr.heap.size (aP P0) = W3 := ⟨_, rfl⟩
      have hb3 : Below wr.heap.size wr W3 := by rw [← hW3]; exact below_setRow (grew_alloc wr _) (Nat.le_refl _) _
      have hr3 : W3.heap[wr.heap.size]? = some (.cells (aP P0) 94 (0, 0)) := by rw [← hW3]; exact setRow_heap _ _ _ _ 94 _ (at_new rfl)
      have hys : ((b.drop d).take k).length = k := by simp; omega
      obtain ⟨ys, hyse⟩ : ∃ ys, ys = (b.drop d).take k := ⟨_, rfl⟩
      rw [← hyse] at hys
      have hyb : Num.Byt ys := by rw [hyse]; exact byt_take (byt_drop hbb d) k
      have hP1l : (spl P0 r ys).length = 128 := by rw [spl_len (by omega), hPl]
      have hNEW : ((aP P0).toList.take r ++ ys.map (Value.int .u8) ++ (aP P0).toList.drop (r + (ys.map (Value.int .u8)).length)).toArray = aP (spl P0 r ys) := by
        simp [aP, spl, List.map_take, List.map_drop]
      have hr3d : W3.drew.heap[wr.heap.size]? = some (.cells (aP P0) 94 (0, 0)) := hr3
      have hsrc : ∀ j v, (ys.map (Value.int .u8))[j]? = some v → W3.drew.cell? ((⟨bb, bo + d, none⟩ : Addr).add j) = some v := by
        have h1 := ((hbr.kept hb3).drop d (by omega)).take k (by omega)
        rw [← hyse] at h1
        exact h1.src'
      have hcd : ∀ ty, (Builtin.copy_ #[22, 22] ty #[.slice (some ⟨wr.heap.size, r, none⟩) (128 - r) (128 - r), .slice (some ⟨bb, bo + d, none⟩) (n - d) (c - d)]).run Try.prog W3.drew = .ok (.int .i64 (k : Int)) (W3.drew.setRow wr.heap.size (aP (spl P0 r ys))) := fun ty => by
        have := run_copy_row (P := Try.prog) W3.drew 22 22 ty 5 wr.heap.size r (128 - r) (128 - r) ⟨bb, bo + d, none⟩ (n - d) (c - d) (aP P0) 94 (ys.map (Value.int .u8)) Try.underlying22 size5 hr3d (by rw [List.length_map, hys, hk]; exact Nat.min_comm _ _) hsrc (by rw [List.length_map, hys, hs0]; omega) (one_cells _)
        rw [this, hNEW]
        simp [goInt, hys]
      obtain ⟨W4, hW4⟩ : ∃ W4, W3.drew.setRow wr.heap.size (aP (spl P0 r ys)) = W4 := ⟨_, rfl⟩
      rw [hW4] at hcd
      have hb4 : Below wr.heap.size wr W4 := by rw [← hW4]; exact below_setRow (hb3.trans ((Below.refl _ _).drew.mono hb3.size)) (Nat.le_refl _) _
      have hr4 : W4.heap[wr.heap.size]? = some (.cells (aP (spl P0 r ys)) 94 (0, 0)) := by rw [← hW4]; exact setRow_heap _ _ _ _ 94 _ hr3d
      have hi94b : (Try.prog.info? 94).map (·.size) = some (aP (spl P0 r ys)).size := by rw [aP_size hP1l]; exact info94
      have hC4 := hC.kept hb4
      have hP1b : Num.Byt (spl P0 r ys) := fun i => by
        rw [spl_at (by omega)]
        split
        · exact hyb _
        · rw [hP0]; exact pcL_byt (wrt_byt h.byt (byt_take hbb d) off) a i
      have hput := put_ok W4 f pm N' _ hC4.c5 hC4.mf (by omega) a (by omega) (spl P0 r ys) hP1l hP1b
      obtain ⟨d2, hd2⟩ : ∃ d2, d2 = d + k := ⟨_, rfl⟩
      have hd2w : IntKind.i64.wrap ((d : Int) + (k : Int)) = (d2 : Int) := by rw [IntWalk.i64_in _ (by omega)]; omega
      have hd2e : (d : Int) + (k : Int) = (d2 : Int) := by omega
      have hwd2 : IntKind.i64.wrap (d2 : Int) = (d2 : Int) := IntWalk.i64_in _ (by omega)
      obtain ⟨t2, ht2⟩ : ∃ t2, t2 = off + d2 := ⟨_, rfl⟩
      have ht2w : IntKind.i64.wrap ((off : Int) + (d2 : Int)) = (t2 : Int) := by rw [IntWalk.i64_in _ (by omega)]; omega
      have ht2e : (off : Int) + (d2 : Int) = (t2 : Int) := by omega
      have hwt2 : IntKind.i64.wrap (t2 : Int) = (t2 : Int) := IntWalk.i64_in _ (by omega)
      have HE : Hid (∀ x : Int, pcF (wrt xs off (b.take d2)) x = fput (pcF (wrt xs off (b.take d))) (a : Int) (pV (spl P0 r ys)) x) := fun x => by rw [hd2, hP0, hyse]; exact pcF_step (by omega) (by omega) he x
      have HL : Hid ((wrt xs off (b.take d2)).length = max (wrt xs off (b.take d)).length t2) := by show _ = _; rw [hd2, step_len (by omega) (by omega)]; omega
      have HD : Hid (d2 ≤ n ∧ d < d2 ∧ d2 = d + k ∧ N' ≤ N + d ∧ 1 ≤ k) := by show _ ∧ _; omega
      have HB4 : Hid (Below wr.heap.size wr W4) := hb4
      have hrI : (r : Int) ≤ 128 := by omega
      have hr0 : (0 : Int) ≤ (r : Int) := by omega
      have hdc : (d : Int) ≤ (c : Int) := by omega
      have hdn : (d : Int) ≤ (n : Int) := by omega
      have hd0 : (0 : Int) ≤ (d : Int) := by omega
      obtain ⟨L0, hL0⟩ : ∃ L0, L0 = (wrt xs off (b.take d)).length := ⟨_, rfl⟩
      have HL0 : Hid (L0 = (wrt xs off (b.take d)).length) := hL0
      have hCb : Num.Byt (wrt xs off (b.take d2)) := wrt_byt h.byt (byt_take hbb d2) off
      clear ht ha hr hk he hP0 hs0 hc0 hys hyse hyb hNEW hr3d hsrc hb4 hW4 hd2 ht2 hP1b hP1l hbr hL0
      go_wp2_with (first | (refine wpList_store_row rfl 94 (.tmp 8) (.tmp 22) rfl wr.heap.size (aP P0) rfl rfl 94 _ (at_new rfl) hi94 hold hone ?_; rw [hW3]))
      go_region_held3 (fun _ => True) (trivial) (fail)
      go_wp2_with (first | (refine wpList_load_row rfl 94 (.tmp 8) rfl wr.heap.size rfl 94 _ (0, 0) _ hr4 Try.underlying94 rfl hi94b ?_))
      refine Calls.mono hput ?_
      rintro e w5 ⟨rfl, hM5, hg5⟩
      have hfl : f < W4.heap.size := (Array.getElem?_eq_some_iff.1 hC4.row).1
      have hrow5 : w5.heap[f]? = some (.cells #[v0, v1, v2, v3, .int .i64 (L0 : Int), .map (some pm)] 58 (0, 0)) := by rw [HL0.out]; exact (hg5.block f hfl (fun e => hne (Option.some.inj e))).trans hC4.row
      have c45 : w5.cell? ⟨f, 4, none⟩ = some (.int .i64 (L0 : Int)) := cell_of_row w5 f 4 _ 58 _ hrow5
      have fz5 : w5.frozen? ⟨f, 4, none⟩ = false := by simp [World.frozen?, hrow5]
      obtain ⟨mx, hmx⟩ : ∃ mx, mx = max L0 t2 := ⟨_, rfl⟩
      have hmxI : max (L0 : Int) (t2 : Int) = (mx : Int) := by omega
      have HX : Hid ((wrt xs off (b.take d2)).length = mx) := by show _ = _; rw [HL.out, ← HL0.out, hmx]
      have hpm5 : (w5.setCell ⟨f, 4, none⟩ (.int .i64 (mx : Int))).heap[pm]? = w5.heap[pm]? := Below.heap_setCell _ _ _ _ (fun e => hne e.symm)
      have HR : Hid (CT (w5.setCell ⟨f, 4, none⟩ (.int .i64 (mx : Int))) f pm (N' + 1) v0 v1 v2 v3 (wrt xs off (b.take d2))) := by
        refine ⟨?_, ?_, hCb⟩
        · rw [HX.out]
          exact heap_setCell_same w5 f 4 _ 58 _ hrow5
        · exact (hM5.kept hpm5).congr fun x _ => HE.out x
      have HF : Hid (Fr (fun k => k = f ∨ k = pm) w (w5.setCell ⟨f, 4, none⟩ (.int .i64 (mx : Int)))) := by
        refine (hF.trans (Fr.below HB4.out)).trans ((Fr.grown hg5 (.inr rfl)).trans ⟨rfl, rfl, rfl, by simp, fun k hk hn => Below.heap_setCell _ _ _ _ (fun e => hn (.inl e))⟩)
      clear hput hM5 hg5 hmx hpm5 hrow5 hfl hC4
      dsimp only
      go_wp2_with fail
      go_roundw
      case rel =>
        have hd' := HD.out
        exact ⟨d2, N' + 1, hd'.1, rfl, HR.out, by omega, HF.out⟩
      case measure => have hd' := HD.out; simp [intOf]; omega
    · obtain rfl : d = n := by omega
      have hdI : ¬ (d : Int) < (d : Int) := by omega
      rw [List.take_of_length_le (by omega)] at hC
      go_wp2_with fail
      go_end0
      obtain ⟨D, h1, h2, h3⟩ := hC.mf
      exact ⟨rfl, ⟨hC.row, ⟨D, h1, by omega, h3⟩, hC.byt⟩, hF⟩
end
end Go.Proofs.Ytfchclpglcogoaa
