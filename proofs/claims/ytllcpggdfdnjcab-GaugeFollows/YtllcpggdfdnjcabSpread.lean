/- Smooth, the program's and the document's; the program's Spread. -/
import Derived.Test.YtllcpggdfdnjcabRuns
import Derived.Laws.EntriesVeiled
namespace Go.Proofs.Ytllcpggdfdnjcab
open Go.RowKit
set_option linter.unusedVariables false

def clampI (h : Int) : Int := if h < 0 then 0 else if 100 < h then 100 else h
def oSmooth (a b : Nat) (h : Int) : Option Nat := ob .add (fc a) (ob .mul (ob .sub (fc b) (fc a)) (ob .quo (fi (clampI h)) (some 4636737291354636288)))

set_option maxHeartbeats 400000 in
theorem smooth_ok (a b : Nat) (h : Int) (w : World) :
    Calls Try.prog 32 #[.int .u64 (a : Int), .int .u64 (b : Int), .int .i64 h] w fun e w' => e = .returned (.int .u64 (tl (oSmooth a b h))) ∧ ∃ k, w' = w.drewN k := by
  have hq := fun (w : World) (t : TypeId) (x y : Nat) => run_fop (P := Try.prog) w Fop.quo t x y
  have ha := fun (w : World) (t : TypeId) (x y : Nat) => run_fop (P := Try.prog) w Fop.add t x y
  have hs := fun (w : World) (t : TypeId) (x y : Nat) => run_fop (P := Try.prog) w Fop.sub t x y
  have hm := fun (w : World) (t : TypeId) (x y : Nat) => run_fop (P := Try.prog) w Fop.mul t x y
  have ht := told_ok
  have hn := fun (n : Nat) w => number_ok (n : Int) w
  obtain ⟨c, hc⟩ : ∃ c, c = clampI h := ⟨_, rfl⟩
  have key : oSmooth a b h = ob .add (fc a) (ob .mul (ob .sub (fc b) (fc a)) (ob .quo (fi c) (some 4636737291354636288))) := by rw [hc]; rfl
  have HK : Hid _ := key
  clear key
  unfold clampI at hc
  by_cases h1 : h < 0
  · rw [if_pos h1] at hc
    subst hc
    go_enter Try.func32, Try.ntmps32
    go_wp2_with (first | (go_at_call 65; refine same_at (hn _ _) ?_) | (go_at_call 60; refine same_at (ht _ _) ?_))
    go_ret
    refine ⟨?_, _, rfl⟩
    simp only [HK.out, fc_fv, fc_fi, fc_hundred]
    rfl
  · rw [if_neg h1] at hc
    by_cases h2 : 100 < h
    · rw [if_pos h2] at hc
      subst hc
      go_enter Try.func32, Try.ntmps32
      go_wp2_with (first | (go_at_call 65; refine same_at (hn _ _) ?_) | (go_at_call 60; refine same_at (ht _ _) ?_))
      go_ret
      refine ⟨?_, _, rfl⟩
      simp only [HK.out, fc_fv, fc_fi, fc_hundred]
      rfl
    · rw [if_neg h2] at hc
      subst hc
      go_enter Try.func32, Try.ntmps32
      go_wp2_with (first | (go_at_call 65; refine same_at (hn _ _) ?_) | (go_at_call 60; refine same_at (ht _ _) ?_))
      go_ret
      refine ⟨?_, _, rfl⟩
      simp only [HK.out, fc_fv, fc_fi, fc_hundred]
      rfl

set_option maxHeartbeats 400000 in
theorem rsmooth_ok (a b : Nat) (h : Int) (w : World) :
    Calls Try.prog 33 #[.int .u64 (a : Int), .int .u64 (b : Int), .int .i64 h] w fun e w' => e = .returned (.int .u64 (tl (oSmooth a b h))) ∧ ∃ k, w' = w.drewN k := by
  have hq := fun (w : World) (t : TypeId) (x y : Nat) => run_fop (P := Try.prog) w Fop.quo t x y
  have ha := fun (w : World) (t : TypeId) (x y : Nat) => run_fop (P := Try.prog) w Fop.add t x y
  have hs := fun (w : World) (t : TypeId) (x y : Nat) => run_fop (P := Try.prog) w Fop.sub t x y
  have hm := fun (w : World) (t : TypeId) (x y : Nat) => run_fop (P := Try.prog) w Fop.mul t x y
  have ht := rbits_ok
  have hn := fun (n : Nat) w => rfloat_ok (n : Int) w
  obtain ⟨c, hc⟩ : ∃ c, c = clampI h := ⟨_, rfl⟩
  have key : oSmooth a b h = ob .add (fc a) (ob .mul (ob .sub (fc b) (fc a)) (ob .quo (fi c) (some 4636737291354636288))) := by rw [hc]; rfl
  have HK : Hid _ := key
  clear key
  unfold clampI at hc
  by_cases h1 : h < 0
  · rw [if_pos h1] at hc
    subst hc
    have h2 : h < 100 := by omega
    go_enter Try.func33, Try.ntmps33
    go_wp2_with (first | (go_at_call 66; refine same_at (hn _ _) ?_) | (go_at_call 61; refine same_at (ht _ _) ?_))
    go_ret
    refine ⟨?_, _, rfl⟩
    simp only [HK.out, fc_fv, fc_fi, fc_hundred]
    rfl
  · rw [if_neg h1] at hc
    by_cases h2 : 100 < h
    · rw [if_pos h2] at hc
      subst hc
      go_enter Try.func33, Try.ntmps33
      go_wp2_with (first | (go_at_call 66; refine same_at (hn _ _) ?_) | (go_at_call 61; refine same_at (ht _ _) ?_))
      go_ret
      refine ⟨?_, _, rfl⟩
      simp only [HK.out, fc_fv, fc_fi, fc_hundred]
      rfl
    · rw [if_neg h2] at hc
      subst hc
      go_enter Try.func33, Try.ntmps33
      go_wp2_with (first | (go_at_call 66; refine same_at (hn _ _) ?_) | (go_at_call 61; refine same_at (ht _ _) ?_))
      all_goals go_ret
      all_goals refine ⟨?_, _, rfl⟩
      all_goals simp only [HK.out, fc_fv, fc_fi, fc_hundred]
      all_goals first | rfl | (have e : c = 100 := by omega
                               rw [e]; rfl) | (have e : c = 0 := by omega
                                               rw [e]; rfl) | trace_state

def gsum (xs : List Nat) (n : Nat) : Option Nat := osum (fun k => fc (xs.getD k 0)) n
def gmean (xs : List Nat) (n : Nat) : Option Nat := ob .quo (gsum xs n) (fi n)
def gsq (xs : List Nat) (m : Option Nat) (k : Nat) : Option Nat := ob .mul (ob .sub (fc (xs.getD k 0)) m) (ob .sub (fc (xs.getD k 0)) m)
def oSpread (xs : List Nat) (n : Nat) : Option Nat := ob .quo (osum (gsq xs (gmean xs n)) n) (fi n)

set_option maxRecDepth 10000 in
theorem sum67_ok (n : Nat) (hn : n ≤ 140737488355328) (cv : Value) (F : Nat → Option Nat) (w : World)
    (hF : ∀ (k : Nat) (q : Nat), k < n → Calls Try.prog 67 #[.int .i64 (k : Int), cv] (w.drewN q) fun e w' => ∃ x q', e = .returned (.float .f64 x) ∧ Hid (fc x = F k) ∧ w' = w.drewN q') :
    Calls Try.prog 68 #[.int .i64 (n : Int), .func (.func 67) #[] #[cv]] w fun e w' => ∃ x q, e = .returned (.float .f64 x) ∧ fc x = osum F n ∧ w' = w.drewN q := by
  have ha := fun (w : World) (t : TypeId) (x y : Nat) => run_fop (P := Try.prog) w Fop.add t x y
  go_enter Try.func68, Try.ntmps68
  go_wp2_with fail
  go_loopw [5, 8] (fun s j wr => ∃ (k : Nat) (x q : Nat), k ≤ n ∧ j = .int .i64 (k : Int) ∧ s = .float .f64 x ∧ Hid (fc x = osum F k) ∧ wr = w.drewN q) (fun s j _ => n - (intOf j).toNat)
  case atStart => exact ⟨0, 0, 0, by omega, rfl, rfl, fc_nought, rfl⟩
  case round =>
    obtain ⟨k, x, q, hk, rfl, rfl, hx, rfl⟩ := hrel
    by_cases hlt : k < n
    · have hkI : (k : Int) < (n : Int) := by omega
      have hc := hF k
      go_wp2_with (first | (go_at_call 67; refine (hc _ hlt).mono ?_; rintro e w' ⟨y, q', rfl, hy, rfl⟩))
      go_roundw
      case rel => exact ⟨k + 1, _, _, by omega, by go_num, rfl, by show fc _ = ob .add (osum F k) (F k); rw [fc_fv, hx.out, hy.out], rfl⟩
      case measure => simp [intOf]; omega
    · obtain rfl : k = n := by omega
      go_wp2
      go_ret
      exact ⟨_, _, rfl, hx.out, rfl⟩

set_option maxRecDepth 10000 in
theorem sum69_ok (n : Nat) (hn : n ≤ 140737488355328) (cv cu : Value) (F : Nat → Option Nat) (w : World)
    (hF : ∀ (k : Nat) (q : Nat), k < n → Calls Try.prog 69 #[.int .i64 (k : Int), cv, cu] (w.drewN q) fun e w' => ∃ x q', e = .returned (.float .f64 x) ∧ Hid (fc x = F k) ∧ w' = w.drewN q') :
    Calls Try.prog 68 #[.int .i64 (n : Int), .func (.func 69) #[] #[cv, cu]] w fun e w' => ∃ x q, e = .returned (.float .f64 x) ∧ fc x = osum F n ∧ w' = w.drewN q := by
  have ha := fun (w : World) (t : TypeId) (x y : Nat) => run_fop (P := Try.prog) w Fop.add t x y
  go_enter Try.func68, Try.ntmps68
  go_wp2_with fail
  go_loopw [5, 8] (fun s j wr => ∃ (k : Nat) (x q : Nat), k ≤ n ∧ j = .int .i64 (k : Int) ∧ s = .float .f64 x ∧ Hid (fc x = osum F k) ∧ wr = w.drewN q) (fun s j _ => n - (intOf j).toNat)
  case atStart => exact ⟨0, 0, 0, by omega, rfl, rfl, fc_nought, rfl⟩
  case round =>
    obtain ⟨k, x, q, hk, rfl, rfl, hx, rfl⟩ := hrel
    by_cases hlt : k < n
    · have hkI : (k : Int) < (n : Int) := by omega
      have hc := hF k
      go_wp2_with (first | (go_at_call 69; refine (hc _ hlt).mono ?_; rintro e w' ⟨y, q', rfl, hy, rfl⟩))
      go_roundw
      case rel => exact ⟨k + 1, _, _, by omega, by go_num, rfl, by show fc _ = ob .add (osum F k) (F k); rw [fc_fv, hx.out, hy.out], rfl⟩
      case measure => simp [intOf]; omega
    · obtain rfl : k = n := by omega
      go_wp2
      go_ret
      exact ⟨_, _, rfl, hx.out, rfl⟩

theorem c67 (p : Option Addr) (n c : Nat) (xs : List Nat) (w : World) (h : UI w p n xs) (g : Nat) (hg : w.cell? ⟨g, 0, none⟩ = some (.slice p n c)) (k q : Nat) (hk : k < n) :
    Calls Try.prog 67 #[.int .i64 (k : Int), .pointer (some ⟨g, 0, none⟩)] (w.drewN q) fun e w' => e = .returned (.float .f64 (xs.getD k 0)) ∧ w' = w.drewN q := by
  have hbig := h.big
  obtain ⟨b1, o1, rfl, hc1⟩ := h.cells (by omega)
  have e1 := hc1 k hk
  clear hc1
  generalize xs.getD k 0 = y at e1
  have hn := number_ok (y : Int)
  have hkI : (k : Int) < (n : Int) := by omega
  have hk0 : (0 : Int) ≤ (k : Int) := by omega
  go_enter Try.func67, Try.ntmps67
  go_wp2_with (first | (go_at_call 65; refine same_at (hn _) ?_))
  go_ret
  exact ⟨rfl, rfl⟩

set_option maxHeartbeats 400000 in
theorem c69 (p : Option Addr) (n c : Nat) (xs : List Nat) (w : World) (h : UI w p n xs) (g g1 g2 m : Nat) (hg : w.cell? ⟨g, 0, none⟩ = some (.slice p n c))
    (hg1 : w.cell? ⟨g1, 0, none⟩ = some (.func (.func 67) #[] #[.pointer (some ⟨g, 0, none⟩)])) (hg2 : w.cell? ⟨g2, 0, none⟩ = some (.float .f64 m)) (k q : Nat) (hk : k < n) :
    Calls Try.prog 69 #[.int .i64 (k : Int), .pointer (some ⟨g1, 0, none⟩), .pointer (some ⟨g2, 0, none⟩)] (w.drewN q) fun e w' => ∃ x q', e = .returned (.float .f64 x) ∧ Hid (fc x = gsq xs (fc m) k) ∧ w' = w.drewN q' := by
  have hs := fun (w : World) (t : TypeId) (x y : Nat) => run_fop (P := Try.prog) w Fop.sub t x y
  have hm := fun (w : World) (t : TypeId) (x y : Nat) => run_fop (P := Try.prog) w Fop.mul t x y
  have hc := fun q => c67 p n c xs w h g hg k q hk
  have HQ : Hid (gsq xs (fc m) k = ob .mul (ob .sub (fc (xs.getD k 0)) (fc m)) (ob .sub (fc (xs.getD k 0)) (fc m))) := rfl
  generalize xs.getD k 0 = y at hc HQ
  clear h hg
  go_enter Try.func69, Try.ntmps69
  go_wp2_with fail
  go_region_with (first | (go_at_call 67; refine same_at (hc _) ?_))
  all_goals go_wp2
  all_goals go_ret
  all_goals exact ⟨_, _, rfl, by show fc _ = _; rw [HQ.out, fc_fv, fc_fv], rfl⟩

set_option maxRecDepth 100000 in
set_option maxHeartbeats 1000000 in
theorem spread_ok (p : Option Addr) (n c : Nat) (xs : List Nat) (w : World) (h : UI w p n xs) :
    Calls Try.prog 34 #[.slice p n c] w fun e w' => e = .returned (.int .u64 (tl (oSpread xs n))) ∧ Below w.heap.size w w' := by
  have hq := fun (w : World) (t : TypeId) (x y : Nat) => run_fop (P := Try.prog) w Fop.quo t x y
  have ht := told_ok
  have hbig := h.big
  have hsf := fun (w : World) (a : Addr) (x : Nat) m => run_store Try.prog w a (.float .f64 x) m rfl
  obtain ⟨W1, hW1⟩ : ∃ W1, (w.alloc (Obj.cells #[.slice p n c] 58)).alloc (Obj.cells #[.func (.func 67) #[] #[.pointer (some ⟨w.heap.size, 0, none⟩)]] 88) = W1 := ⟨_, rfl⟩
  have hb1 : Below w.heap.size w W1 := by rw [← hW1]; exact ((Below.refl _ w).alloc (Nat.le_refl _) _).alloc (by simp) _
  have hz1 : W1.heap.size = w.heap.size + 2 := by rw [← hW1]; simp
  have hu1 := h.kept hb1
  have hg : W1.cell? ⟨w.heap.size, 0, none⟩ = some (.slice p n c) := by
    rw [← hW1]
    have hb := (Below.refl (w.heap.size + 1) (w.alloc (Obj.cells #[.slice p n c] 58))).alloc (by simp) (Obj.cells #[.func (.func 67) #[] #[.pointer (some ⟨w.heap.size, 0, none⟩)]] 88)
    rw [hb.cell (p := ⟨w.heap.size, 0, none⟩) (by simp)]
    unfold World.cell?; rw [World.alloc_heap_new]; rfl
  have hg1 : W1.cell? ⟨w.heap.size + 1, 0, none⟩ = some (.func (.func 67) #[] #[.pointer (some ⟨w.heap.size, 0, none⟩)]) := by
    rw [← hW1]
    have e : w.heap.size + 1 = (w.alloc (Obj.cells #[.slice p n c] 58)).heap.size := by simp
    unfold World.cell?
    rw [e, World.alloc_heap_new]; rfl
  have s67 := sum67_ok n hbig (.pointer (some ⟨w.heap.size, 0, none⟩)) (fun k => fc (xs.getD k 0)) W1
    (fun k q hk => (c67 p n c xs W1 hu1 _ hg k q hk).mono fun e w' ⟨he, hw⟩ => ⟨_, q, he, rfl, hw⟩)
  have s69 : ∀ Q m : Nat, Calls Try.prog 68 #[.int .i64 (n : Int), .func (.func 69) #[] #[.pointer (some ⟨w.heap.size + 1, 0, none⟩), .pointer (some ⟨w.heap.size + 2, 0, none⟩)]] ((W1.drewN Q).alloc (Obj.cells #[.float .f64 m] 53))
      fun e w' => ∃ x q, e = .returned (.float .f64 x) ∧ fc x = osum (gsq xs (fc m)) n ∧ w' = ((W1.drewN Q).alloc (Obj.cells #[.float .f64 m] 53)).drewN q := by
    intro Q m
    have hb2 : Below W1.heap.size W1 ((W1.drewN Q).alloc (Obj.cells #[.float .f64 m] 53)) := (below_drewN (Below.refl _ W1) Q).alloc (Nat.le_refl _) _
    have hg2 : ((W1.drewN Q).alloc (Obj.cells #[.float .f64 m] 53)).cell? ⟨w.heap.size + 2, 0, none⟩ = some (.float .f64 m) := by
      have e : w.heap.size + 2 = (W1.drewN Q).heap.size := hz1.symm
      unfold World.cell?
      rw [e, World.alloc_heap_new]; rfl
    exact sum69_ok n hbig _ _ (gsq xs (fc m)) _ fun k q hk => c69 p n c xs _ (hu1.kept hb2) w.heap.size (w.heap.size + 1) (w.heap.size + 2) m
      (by rw [hb2.cell (p := ⟨w.heap.size, 0, none⟩) (by rw [hz1]; simp)]; exact hg)
      (by rw [hb2.cell (p := ⟨w.heap.size + 1, 0, none⟩) (by rw [hz1]; simp)]; exact hg1) hg2 k q hk
  have hbel : ∀ Q m q, Below w.heap.size w (((W1.drewN Q).alloc (Obj.cells #[.float .f64 m] 53)).drewN q) := fun Q m q => below_drewN ((below_drewN hb1 Q).alloc (by show w.heap.size ≤ W1.heap.size; omega) _) q
  have hgm : ∀ Q m : Nat, ((W1.drewN Q).alloc (Obj.cells #[.float .f64 m] 53)).cell? ⟨w.heap.size, 0, none⟩ = some (.slice p n c) := fun Q m => by
    have hb2 : Below W1.heap.size W1 ((W1.drewN Q).alloc (Obj.cells #[.float .f64 m] 53)) := (below_drewN (Below.refl _ W1) Q).alloc (Nat.le_refl _) _
    rw [hb2.cell (p := ⟨w.heap.size, 0, none⟩) (by rw [hz1]; simp)]; exact hg
  clear hu1 hb1 h
  go_enter Try.func34, Try.ntmps34
  go_wp2_with fail
  refine s67.mono ?_
  rintro e w' ⟨x, q, rfl, hx, rfl⟩
  have HX : Hid _ := hx
  clear hx s67 hg1 hW1
  go_wp2_with fail
  refine (s69 _ _).mono ?_
  rintro e w' ⟨y, q', rfl, hy, rfl⟩
  have HY : Hid _ := hy
  clear hy s69
  go_wp2_with (first | (go_at_call 60; refine same_at (ht _ _) ?_))
  go_ret
  refine ⟨?_, ?_⟩
  · simp only [oSpread, gmean, gsum, fc_fv, fc_fi, HX.out, HY.out]
    rfl
  · exact hbel _ _ _
end Go.Proofs.Ytllcpggdfdnjcab
