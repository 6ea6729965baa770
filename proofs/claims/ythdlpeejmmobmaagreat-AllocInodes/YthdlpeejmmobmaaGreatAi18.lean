/- KGDec A0 KHas KWith KEqual KDinode KEDin -/
import Derived.Test.YthdlpeejmmobmaaGreatAi17
import Derived.Test.YthdlpeejmmobmaaGreatAi16
import Derived.Test.YthdlpeejmmobmaaGreatAi01
import Derived.DeepKeys2

namespace Go.Proofs.YthdlpeejmmobmaaGreat.Mk
open Go.RowKit
set_option maxRecDepth 100000
set_option linter.unusedVariables false

/-- What the bytes of a header say. -/
def rN (xs : List Int) : Int := Num.numD xs 2 1
def rY (xs : List Int) : List Int := (xs.drop 4).take 40
/-- The error that bytes tell, read as a header. -/
def gdE (n : Nat) (xs : List Int) : Int := if n ≠ 128 then 6 else if ¬ xs.take 2 = [104, 100] then 31 else if GGood xs (rN xs) (rY xs) then 0 else 6
def gdN (n : Nat) (xs : List Int) : Int := if gdE n xs = 0 then rN xs else 0
def gdY (n : Nat) (xs : List Int) : List Int := if gdE n xs = 0 then rY xs else zers 40

set_option maxRecDepth 10000 in
set_option maxHeartbeats 1000000 in
theorem decodeGroup_len (p : Option Addr) (n c : Nat) (w : World) (hn : n ≤ 140737488355328) (h1 : ¬ n = 128) :
    Calls Tryz.prog 74 #[.slice p n c] w fun e w' => e = .returned (.tuple #[groupV 0 (zers 40), .int .i64 6]) ∧ Below w.heap.size w w' := by
  have HB := grew_alloc w (groupO 0 (zers 40))
  have hr0 := heap_new w (groupO 0 (zers 40))
  have hr1 := hr0
  dsimp only [groupO] at hr1
  rw [zero38] at hr1
  have hI : ¬ (n : Int) = 128 := by omega
  go_enter Tryz.func74, Tryz.ntmps74
  go_wp2_with (refine wpList_store_row rfl 64 _ _ rfl w.heap.size _ rfl rfl 64 _ hr1 (by rw [← zero38]; exact info38 0 (zers 40) (zers_len 40)) (by rw [← zero38]) (by rw [← zero38]; exact group_one 0 (zers 40)) ?_)
  rw [← zero38]
  refine bodyPost_ret (v := .tuple #[groupV 0 (zers 40), .int .i64 6]) (results_cell_tmp_row (p := 2) (u := 3) (ty := 64) Tryz.results74 _ _ w.heap.size 64 _ (0, 0) _ rfl (setRow_heap _ _ _ _ _ _ hr0) Tryz.underlying64 rfl (info38 0 (zers 40) (zers_len 40))) rfl ?_
  exact ⟨rfl, below_setRow HB (by omega) _⟩

set_option maxRecDepth 10000 in
set_option maxHeartbeats 1000000 in
theorem decodeGroup_magic (p : Option Addr) (c : Nat) (xs : List Int) (w : World) (h : BI w p 128 xs) (hnc : 128 ≤ c) (h2 : ¬ xs.take 2 = [104, 100]) :
    Calls Tryz.prog 74 #[.slice p 128 c] w fun e w' => e = .returned (.tuple #[groupV 0 (zers 40), .int .i64 31]) ∧ Below w.heap.size w w' := by
  have HB := grew_alloc w (groupO 0 (zers 40))
  have hr0 := heap_new w (groupO 0 (zers 40))
  have h0 : BI (w.alloc (groupO 0 (zers 40))) p 128 xs := h.kept HB
  obtain ⟨wl, hcv, hl, hbl⟩ := conv_lit (w.alloc (groupO 0 (zers 40))) [104, 100]
  have hrl : wl.heap[w.heap.size]? = some (groupO 0 (zers 40)) := by rw [hbl.block _ (by rw [size_alloc]; omega)]; exact hr0
  have hrl' := hrl
  dsimp only [groupO] at hrl'
  rw [zero38] at hrl'
  have hbi := hl.bi (Num.byt_of_wf (by decide)) (by decide)
  have hxl := h0.kept hbl
  have HBl := grew_trans HB hbl
  have hcv' : (convert 42 42 (.slice (some ⟨w.heap.size + 1, 0, none⟩) 2 2)).run Tryz.prog ((w.alloc (groupO 0 (zers 40))).alloc (.cells #[.int .u8 104, .int .u8 100] 5)) = .ok (.slice (some ⟨w.heap.size + 1, 0, none⟩) 2 2) wl := by
    have := hcv 2 2
    rw [size_alloc] at this
    exact this
  dsimp only [groupO] at hcv'
  rw [zero38] at hcv'
  rw [size_alloc] at hbi
  have hpre := hasPrefix_ok p _ 128 c 2 2 xs _ wl hxl hbi hnc
  clear hcv hl hbl h0 hr0
  rw [show decide (2 ≤ 128 ∧ xs.take 2 = [104, 100]) = false from decide_eq_false (fun k => h2 k.2)] at hpre
  go_enter Tryz.func74, Tryz.ntmps74
  go_wp2_with (first
    | (go_at_call 140; refine same_at hpre ?_)
    | (refine wpList_store_row rfl 64 _ _ rfl w.heap.size _ rfl rfl 64 _ hrl' (by rw [← zero38]; exact info38 0 (zers 40) (zers_len 40)) (by rw [← zero38]) (by rw [← zero38]; exact group_one 0 (zers 40)) ?_))
  rw [← zero38]
  refine bodyPost_ret (v := .tuple #[groupV 0 (zers 40), .int .i64 31]) (results_cell_tmp_row (p := 2) (u := 3) (ty := 64) Tryz.results74 _ _ w.heap.size 64 _ (0, 0) _ rfl (setRow_heap _ _ _ _ _ _ hrl) Tryz.underlying64 rfl (info38 0 (zers 40) (zers_len 40))) rfl ?_
  exact ⟨rfl, below_setRow HBl (by omega) _⟩

set_option maxRecDepth 10000 in
set_option maxHeartbeats 1000000 in
theorem decodeGroup_in (p : Option Addr) (c : Nat) (xs : List Int) (w : World) (h : BI w p 128 xs) (hnc : 128 ≤ c) (h2 : xs.take 2 = [104, 100]) :
    Calls Tryz.prog 74 #[.slice p 128 c] w fun e w' => e = .returned (if GGood xs (rN xs) (rY xs) then .tuple #[groupV (rN xs) (rY xs), .int .i64 0] else .tuple #[groupV 0 (zers 40), .int .i64 6]) ∧ Below w.heap.size w w' := by
  have HB := grew_alloc w (groupO 0 (zers 40))
  have hr0 := heap_new w (groupO 0 (zers 40))
  have h0 : BI (w.alloc (groupO 0 (zers 40))) p 128 xs := h.kept HB
  obtain ⟨wl, hcv, hl, hbl⟩ := conv_lit (w.alloc (groupO 0 (zers 40))) [104, 100]
  have hrl : wl.heap[w.heap.size]? = some (groupO 0 (zers 40)) := by rw [hbl.block _ (by rw [size_alloc]; omega)]; exact hr0
  have hrl' := hrl
  dsimp only [groupO] at hrl'
  rw [zero38] at hrl'
  have hbi := hl.bi (Num.byt_of_wf (by decide)) (by decide)
  have hxl := h0.kept hbl
  have HBl := grew_trans HB hbl
  have hcv' : (convert 42 42 (.slice (some ⟨w.heap.size + 1, 0, none⟩) 2 2)).run Tryz.prog ((w.alloc (groupO 0 (zers 40))).alloc (.cells #[.int .u8 104, .int .u8 100] 5)) = .ok (.slice (some ⟨w.heap.size + 1, 0, none⟩) 2 2) wl := by
    have := hcv 2 2
    rw [size_alloc] at this
    exact this
  dsimp only [groupO] at hcv'
  rw [zero38] at hcv'
  rw [size_alloc] at hbi
  have hpre := hasPrefix_ok p _ 128 c 2 2 xs _ wl hxl hbi hnc
  clear hcv hl hbl h0 hr0
  rw [show decide (2 ≤ 128 ∧ xs.take 2 = [104, 100]) = true from decide_eq_true ⟨by decide, h2⟩] at hpre
  have hrd := readGroup_ok p c xs wl hxl
  have hyl : ((xs.drop 4).take 40).length = 40 := by have := h.len; simp; omega
  have hyb : Num.Byt ((xs.drop 4).take 40) := byt_take (byt_drop h.byt _) _
  have hfo := fun w' (hb : Below wl.heap.size wl w') => gform_ok (rN xs) (rY xs) hyl hyb p 128 c xs w' (hxl.kept hb)
  have hyl : (rY xs).length = 40 := hyl
  have hrd : Calls Tryz.prog 142 #[.slice p 128 c] wl fun e w' => e = .returned (groupV (rN xs) (rY xs)) ∧ Below wl.heap.size wl w' := hrd
  generalize rN xs = a at *
  generalize rY xs = ys at *
  by_cases hg : GGood xs a ys
  · simp only [if_pos hg] at hfo ⊢
    go_enter Tryz.func74, Tryz.ntmps74
    go_wp2_with (first
      | (go_at_call 140; refine same_at hpre ?_)
      | (go_at_call 142; refine grew_at hrd ?_; intro w1 hb1; have hr1 : w1.heap[w.heap.size]? = some (groupO 0 (zers 40)) := by rw [hb1.block _ (Array.getElem?_eq_some_iff.1 hrl).1]; exact hrl)
      | (go_at_call 141; refine grew_at (hfo _ hb1) ?_; intro w2 hb2; have hr2 : w2.heap[w.heap.size]? = some (groupO 0 (zers 40)) := by rw [hb2.block _ (Array.getElem?_eq_some_iff.1 hr1).1]; exact hr1)
      | (refine wpList_store_row rfl 64 _ _ rfl w.heap.size _ rfl rfl 64 _ hr2 (info38 a ys hyl) ((groupA_size 0 (zers 40) (zers_len 40)).trans (groupA_size a ys hyl).symm) (group_one a ys) ?_))
    refine bodyPost_ret (v := .tuple #[groupV a ys, .int .i64 0]) (results_cell_tmp_row (p := 2) (u := 3) (ty := 64) Tryz.results74 _ _ w.heap.size 64 _ (0, 0) _ rfl (setRow_heap _ _ _ _ _ _ hr2) Tryz.underlying64 rfl (info38 a ys hyl)) rfl ?_
    exact ⟨rfl, below_setRow (grew_trans (grew_trans HBl hb1) hb2) (by omega) _⟩
  · simp only [if_neg hg] at hfo ⊢
    go_enter Tryz.func74, Tryz.ntmps74
    go_wp2_with (first
      | (go_at_call 140; refine same_at hpre ?_)
      | (go_at_call 142; refine grew_at hrd ?_; intro w1 hb1; have hr1 : w1.heap[w.heap.size]? = some (groupO 0 (zers 40)) := by rw [hb1.block _ (Array.getElem?_eq_some_iff.1 hrl).1]; exact hrl)
      | (go_at_call 141; refine grew_at (hfo _ hb1) ?_; intro w2 hb2; have hr2 : w2.heap[w.heap.size]? = some (groupO 0 (zers 40)) := by rw [hb2.block _ (Array.getElem?_eq_some_iff.1 hr1).1]; exact hr1)
      | (refine wpList_store_row rfl 64 _ _ rfl w.heap.size _ rfl rfl 64 _ hr2 (info38 0 (zers 40) (zers_len 40)) rfl (group_one 0 (zers 40)) ?_))
    refine bodyPost_ret (v := .tuple #[groupV 0 (zers 40), .int .i64 6]) (results_cell_tmp_row (p := 2) (u := 3) (ty := 64) Tryz.results74 _ _ w.heap.size 64 _ (0, 0) _ rfl (setRow_heap _ _ _ _ _ _ hr2) Tryz.underlying64 rfl (info38 0 (zers 40) (zers_len 40))) rfl ?_
    exact ⟨rfl, below_setRow (grew_trans (grew_trans HBl hb1) hb2) (by omega) _⟩

theorem decodeGroup_ok (p : Option Addr) (n c : Nat) (xs : List Int) (w : World) (h : BI w p n xs) (hnc : n ≤ c) :
    Calls Tryz.prog 74 #[.slice p n c] w fun e w' => e = .returned (.tuple #[groupV (gdN n xs) (gdY n xs), .int .i64 (gdE n xs)]) ∧ Below w.heap.size w w' := by
  by_cases h1 : n = 128
  · subst h1
    by_cases h2 : xs.take 2 = [104, 100]
    · refine (decodeGroup_in p c xs w h hnc h2).mono ?_
      rintro e w' ⟨rfl, hb⟩
      refine ⟨?_, hb⟩
      unfold gdN gdY
      by_cases hg : GGood xs (rN xs) (rY xs)
      · have e1 : gdE 128 xs = 0 := by unfold gdE; rw [if_neg (by simp), if_neg (by simp [h2]), if_pos hg]
        rw [e1, if_pos hg, if_pos rfl, if_pos rfl]
      · have e1 : gdE 128 xs = 6 := by unfold gdE; rw [if_neg (by simp), if_neg (by simp [h2]), if_neg hg]
        rw [e1, if_neg hg, if_neg (by decide), if_neg (by decide)]
    · have e1 : gdE 128 xs = 31 := by unfold gdE; rw [if_neg (by simp), if_pos h2]
      unfold gdN gdY
      rw [e1, if_neg (by decide), if_neg (by decide)]
      exact decodeGroup_magic p c xs w h hnc h2
  · have e1 : gdE n xs = 6 := by unfold gdE; rw [if_pos h1]
    unfold gdN gdY
    rw [e1, if_neg (by decide), if_neg (by decide)]
    exact decodeGroup_len p n c w h.big h1
end Go.Proofs.YthdlpeejmmobmaaGreat.Mk

namespace Go.Proofs.YthdlpeejmmobmaaGreat.Mk.Al
open Go.RowKit
set_option maxRecDepth 100000
set_option linter.unusedVariables false

/-- A row's number: 0 of the blocks, 1 of the inodes. -/
def rI (r : Bool) : Int := if r then 1 else 0
/-- A row's bytes, first byte and how many, of a header's forty. -/
def rAt (r : Bool) : Nat := if r then 0 else 8
def rLen (r : Bool) : Nat := if r then 8 else 32
def rowOf (r : Bool) (ys : List Int) : List Int := (ys.drop (rAt r)).take (rLen r)

set_option maxHeartbeats 400000 in
theorem of_ok (r : Bool) (b o : Nat) (w : World) :
    Calls Tryz.prog 132 #[.int .i64 (rI r), .pointer (some ⟨b, o, none⟩)] w fun e w' => e = .returned (.slice (some ⟨b, o + (rAt r + 1), none⟩) (rLen r) (rLen r)) ∧ w' = w := by
  cases r
  · show Calls Tryz.prog 132 #[.int .i64 0, _] w _
    go_enter Tryz.func132, Tryz.ntmps132
    go_wp2
    go_ret
    exact ⟨rfl, rfl⟩
  · show Calls Tryz.prog 132 #[.int .i64 1, _] w _
    go_enter Tryz.func132, Tryz.ntmps132
    go_wp2
    go_ret
    exact ⟨rfl, rfl⟩

/-- The bits of a group that may be given: the first, and the one behind the last. -/
def spF (r : Bool) (I n : Int) : Int := if r then (if n = 0 then 2 else 0) else 2 + I / 4
def spE (r : Bool) (B I : Int) : Int := if r then I else B

set_option maxHeartbeats 1000000 in
theorem span_ok {G B I n : Int} (r : Bool) (h : Gm.In G B I n) (w : World) :
    Calls Tryz.prog 130 #[.int .i64 (rI r), geomV G B I, .int .i64 n] w fun e w' => e = .returned (.tuple #[.int .i64 (spF r I n), .int .i64 (spE r B I)]) ∧ Below w.heap.size w w' := by
  have HB : Below w.heap.size w (w.alloc (geomO G B I)) := (Below.refl _ _).alloc (Nat.le_refl _) _
  obtain ⟨c0, c1, c2⟩ := box_cells w G B I
  have hm := h.1.all
  have h1 := h.bd
  cases r
  · have hof : Gm.Of G B I B (n * B + (2 + I / 4)) := ⟨h.1, by omega, by
      have e : G * B = (G - 1) * B + B := by rw [Int.sub_mul]; omega
      have : n * B ≤ (G - 1) * B := Int.mul_le_mul_of_nonneg_right (by have := h.2; omega) (by omega)
      omega⟩
    have hmod : (n * B + (2 + I / 4)) % B = 2 + I / 4 := by
      rw [Int.add_comm, Int.add_mul_emod_self_right]
      exact Int.emod_eq_of_lt (by omega) (by omega)
    have hg := fun w => group_in hof w
    rw [hmod] at hg
    have hda := fun w => data_in h w
    generalize hx : n * B + (2 + I / 4) = x at *
    generalize hy : (x / B) = y at *
    clear hmod hof h1 hx hy hm
    show Calls Tryz.prog 130 #[.int .i64 0, _, _] w _
    go_enter Tryz.func130, Tryz.ntmps130
    go_wp2_with (first | (go_at_call 218; refine grew_at (hda _) ?_; intro wn hbn; have HB := grew_trans HB hbn; have c0 := cell_kept c0 hbn; have c1 := cell_kept c1 hbn; have c2 := cell_kept c2 hbn) | (go_at_call 219; refine grew_at (hg _) ?_; intro wm hbm; have HB := grew_trans HB hbm; have c0 := cell_kept c0 hbm; have c1 := cell_kept c1 hbm; have c2 := cell_kept c2 hbm))
    go_quiet (fail)
    go_wp2_with fail
    go_ret2
    exact ⟨rfl, below_drewN HB _⟩
  · clear h1 hm
    by_cases hn : n = 0
    · subst hn
      show Calls Tryz.prog 130 #[.int .i64 1, _, _] w _
      go_enter Tryz.func130, Tryz.ntmps130
      go_wp2_with fail
      go_quiet (fail)
      go_wp2_with fail
      go_ret2
      exact ⟨rfl, below_drewN HB _⟩
    · have hn2 : (n == 0) = false := by rw [beq_eq_false_iff_ne]; exact hn
      have he : spF true I n = 0 := by unfold spF; rw [if_pos rfl, if_neg hn]
      show Calls Tryz.prog 130 #[.int .i64 1, _, _] w _
      rw [he]
      clear he
      go_enter Tryz.func130, Tryz.ntmps130
      go_wp2_with fail
      go_quiet (fail)
      go_wp2_with fail
      go_ret2
      exact ⟨rfl, below_drewN HB _⟩

/-- The block or the inode that a bit of a group stands for. -/
theorem number_ok {G B I : Int} (r : Bool) (g b : Int) (h : 0 ≤ g * spE r B I ∧ g * spE r B I ≤ 1000000) (hb : 0 ≤ b ∧ b ≤ 1000000) (w : World) :
    Calls Tryz.prog 135 #[.int .i64 (rI r), geomV G B I, .int .i64 g, .int .i64 b] w fun e w' => e = .returned (.int .i64 (g * spE r B I + b)) ∧ Below w.heap.size w w' := by
  have HB : Below w.heap.size w (w.alloc (geomO G B I)) := (Below.refl _ _).alloc (Nat.le_refl _) _
  obtain ⟨c0, c1, c2⟩ := box_cells w G B I
  cases r
  · have h' : 0 ≤ g * B ∧ g * B ≤ 1000000 := h
    show Calls Tryz.prog 135 #[.int .i64 0, _, _, _] w fun e w' => e = .returned (.int .i64 (g * B + b)) ∧ _
    clear h
    go_enter Tryz.func135, Tryz.ntmps135
    go_wp2
    go_ret
    exact ⟨rfl, HB⟩
  · have h' : 0 ≤ g * I ∧ g * I ≤ 1000000 := h
    show Calls Tryz.prog 135 #[.int .i64 1, _, _, _] w fun e w' => e = .returned (.int .i64 (g * I + b)) ∧ _
    clear h
    go_enter Tryz.func135, Tryz.ntmps135
    go_wp2
    go_ret
    exact ⟨rfl, HB⟩
end Go.Proofs.YthdlpeejmmobmaaGreat.Mk.Al

namespace Go.Proofs.YthdlpeejmmobmaaGreat.Mk
open Go.RowKit
set_option maxRecDepth 100000
set_option linter.unusedVariables false

namespace Bit
def mk (i : Nat) : Int := 2 ^ (i % 8)
theorem mk_cases (i : Nat) : mk i = 1 ∨ mk i = 2 ∨ mk i = 4 ∨ mk i = 8 ∨ mk i = 16 ∨ mk i = 32 ∨ mk i = 64 ∨ mk i = 128 := by
  unfold mk
  have : i % 8 < 8 := Nat.mod_lt _ (by decide)
  generalize i % 8 = k at *
  rcases (by omega : k = 0 ∨ k = 1 ∨ k = 2 ∨ k = 3 ∨ k = 4 ∨ k = 5 ∨ k = 6 ∨ k = 7) with rfl | rfl | rfl | rfl | rfl | rfl | rfl | rfl <;> simp
def on (xs : List Int) (i : Nat) : Bool := decide (xs.getD (i / 8) 0 / mk i % 2 = 1)
def onI (xs : List Int) (i : Int) : Bool := decide (0 ≤ i) && on xs i.toNat
/-- A number of first bits as it counts. -/
def cnt (n : Int) : Nat := if n < 0 then 0 else if 65536 < n then 65536 else n.toNat
theorem cnt_le (n : Int) : cnt n ≤ 65536 := by
  unfold cnt
  repeat' split
  all_goals omega
theorem cnt_is (n : Int) : (n < 0 ∧ (cnt n : Int) = 0) ∨ (65536 < n ∧ (cnt n : Int) = 65536) ∨ (0 ≤ n ∧ n ≤ 65536 ∧ (cnt n : Int) = n) := by
  unfold cnt
  repeat' split
  all_goals omega
def turn (x m : Int) (b : Bool) : Int := if b then (if x / m % 2 = 1 then x else x + m) else (if x / m % 2 = 1 then x - m else x)
def put (xs : List Int) (i : Nat) (b : Bool) : List Int := xs.set (i / 8) (turn (xs.getD (i / 8) 0) (mk i) b)
theorem bits_all : ∀ x : Fin 256, ∀ k : Fin 8, (bits BinOp.and .u8 (x.val : Int) (2 ^ k.val) != 0) = decide ((x.val : Int) / 2 ^ k.val % 2 = 1) ∧ bits BinOp.or .u8 (x.val : Int) (2 ^ k.val) = turn x.val (2 ^ k.val) true ∧ bits BinOp.andNot .u8 (x.val : Int) (2 ^ k.val) = turn x.val (2 ^ k.val) false ∧
    bits BinOp.xor .u8 (x.val : Int) (2 ^ k.val) = turn x.val (2 ^ k.val) (! decide ((x.val : Int) / 2 ^ k.val % 2 = 1)) ∧ (0 ≤ turn x.val (2 ^ k.val) true ∧ turn x.val (2 ^ k.val) true < 256) ∧ (0 ≤ turn x.val (2 ^ k.val) false ∧ turn x.val (2 ^ k.val) false < 256) := by decide +kernel
theorem bits_at (x : Int) (h0 : 0 ≤ x) (h1 : x < 256) (i : Nat) : (bits BinOp.and .u8 x (mk i) != 0) = decide (x / mk i % 2 = 1) ∧ bits BinOp.or .u8 x (mk i) = turn x (mk i) true ∧ bits BinOp.andNot .u8 x (mk i) = turn x (mk i) false ∧
    bits BinOp.xor .u8 x (mk i) = turn x (mk i) (! decide (x / mk i % 2 = 1)) ∧ (0 ≤ turn x (mk i) true ∧ turn x (mk i) true < 256) ∧ (0 ≤ turn x (mk i) false ∧ turn x (mk i) false < 256) := by
  obtain ⟨n, rfl⟩ := Int.eq_ofNat_of_zero_le h0
  exact bits_all ⟨n, by omega⟩ ⟨i % 8, Nat.mod_lt _ (by decide)⟩
theorem turn_bd {xs : List Int} (h : Num.Byt xs) (i : Nat) (b : Bool) (j : Nat) : 0 ≤ turn (xs.getD j 0) (mk i) b ∧ turn (xs.getD j 0) (mk i) b < 256 := by
  have := bits_at _ (h j).1 (h j).2 i
  cases b
  · exact this.2.2.2.2.2
  · exact this.2.2.2.2.1
theorem put_len (xs : List Int) (i : Nat) (b : Bool) : (put xs i b).length = xs.length := by simp [put]
theorem put_byt {xs : List Int} (h : Num.Byt xs) (i : Nat) (b : Bool) : Num.Byt (put xs i b) := by
  intro j
  unfold put
  rw [Num.getD_set]
  split
  · exact turn_bd h i b _
  · exact h j
theorem on_far (xs : List Int) (i : Nat) (h : xs.length ≤ i / 8) : on xs i = false := by
  unfold on
  rw [List.getD_eq_getElem?_getD, List.getElem?_eq_none h]
  simp
end Bit

theorem ret_int {k : IntKind} {a b : Int} (h : a = b) : Ending.returned (.int k a) = .returned (.int k b) := by rw [h]

set_option maxHeartbeats 400000 in
theorem mask_ok (i : Nat) (w : World) (hi : i < 9223372036854775808) :
    Calls Tryz.prog 225 #[.int .i64 i] w fun e w' => e = .returned (.int .u8 (Bit.mk i)) ∧ w' = w := by
  have H : Hid ((2 : Int) ^ (i % 8) % 256 = Bit.mk i) := by
    show (2 : Int) ^ (i % 8) % 256 = Bit.mk i
    have := Bit.mk_cases i
    unfold Bit.mk at *
    omega
  have h0 : (0 : Int) ≤ (i : Int) := by omega
  go_enter Tryz.func225, Tryz.ntmps225
  go_wp2
  go_ret
  exact ⟨by show Ending.returned (.int .u8 _) = _; rw [H.out], rfl⟩

set_option maxHeartbeats 400000 in
theorem within_yes (p : Option Addr) (n c : Nat) (i : Nat) (w : World) (hn : n ≤ 140737488355328) (h : i / 8 < n) (hi : i < 9223372036854775808) :
    Calls Tryz.prog 224 #[.slice p n c, .int .i64 i] w fun e w' => e = .returned (.bool true) ∧ w' = w := by
  have h0 : (0 : Int) ≤ (i : Int) := by omega
  have h1 : (i : Int) / 8 < (n : Int) := by omega
  go_enter Tryz.func224, Tryz.ntmps224
  go_wp2
  go_ret
  exact ⟨rfl, rfl⟩

set_option maxHeartbeats 400000 in
theorem within_no (p : Option Addr) (n c : Nat) (i : Int) (w : World) (hn : n ≤ 140737488355328) (h : i < 0 ∨ (n : Int) ≤ i / 8) (hi : i < 9223372036854775808) :
    Calls Tryz.prog 224 #[.slice p n c, .int .i64 i] w fun e w' => e = .returned (.bool false) ∧ w' = w := by
  by_cases h0 : i < 0
  · clear h
    go_enter Tryz.func224, Tryz.ntmps224
    go_wp2
    go_ret
    exact ⟨rfl, rfl⟩
  · have h0 : (0 : Int) ≤ i := by omega
    have h1 : ¬ i / 8 < (n : Int) := by omega
    have h2 : decide (i / 8 < (n : Int)) = false := decide_eq_false h1
    clear h
    go_enter Tryz.func224, Tryz.ntmps224
    go_wp2
    go_ret
    exact ⟨rfl, rfl⟩

theorem run_quo8 (i : Nat) (w : World) (hi : i < 9223372036854775808) : (binOp .quo 3 (.int .i64 i) (.int .i64 8)).run Tryz.prog w = .ok (.int .i64 ((i / 8 : Nat) : Int)) w := by
  have e8 : (i : Int) / 8 = ((i / 8 : Nat) : Int) := by omega
  simp [go_sem]
  exact IntWalk.i64_in _ (by omega)

set_option maxRecDepth 100000 in
set_option maxHeartbeats 400000 in
theorem rhas_yes (p : Option Addr) (n c : Nat) (xs : List Int) (i : Nat) (w : World) (hb : BI w p n xs) (h : i / 8 < n) (hi : i < 9223372036854775808) :
    Calls Tryz.prog 255 #[.slice p n c, .int .i64 i] w fun e w' => e = .returned (.bool (Bit.on xs i)) ∧ w' = w := by
  have hn := hb.big
  have h0 : (0 : Int) ≤ (i : Int) := by omega
  have h1 : (i : Int) / 8 < (n : Int) := by omega
  obtain ⟨b, o, rfl, hc⟩ := hb.cells (by omega)
  have hc1 := hc (i / 8) h
  have hy := hb.byt (i / 8)
  have HX : Hid (((xs.getD (i / 8) 0 / 2 ^ (i % 8)).tmod 2 == 1) = Bit.on xs i) := by
    show ((xs.getD (i / 8) 0 / 2 ^ (i % 8)).tmod 2 == 1) = Bit.on xs i
    rw [Int.tmod_eq_emod_of_nonneg (Int.ediv_nonneg hy.1 (Int.le_of_lt (Int.pow_pos (by decide))))]
    unfold Bit.on Bit.mk
    rw [Bool.eq_iff_iff]
    simp
  clear hc hb
  generalize xs.getD (i / 8) 0 = x at *
  have hq := fun W => run_quo8 i W hi
  go_enter Tryz.func255, Tryz.ntmps255
  go_wp2
  go_ret
  exact ⟨by show Ending.returned (.bool _) = _; rw [HX.out], rfl⟩

end Go.Proofs.YthdlpeejmmobmaaGreat.Mk

namespace Go.Proofs.YthdlpeejmmobmaaGreat.Mk
open Go.RowKit
set_option maxRecDepth 100000
set_option linter.unusedVariables false

theorem drew_at {P : Program} {f : FuncId} {args : Array Value} {w : World} {v : Value} {Q : Ending → World → Prop} (h : Calls P f args w fun e w' => e = .returned v ∧ ∃ k, w' = w.drewN k) (hq : ∀ k, Q (.returned v) (w.drewN k)) : Calls P f args w Q :=
  h.mono (by rintro e w' ⟨rfl, k, rfl⟩; exact hq k)

set_option maxRecDepth 100000 in
set_option maxHeartbeats 1000000 in
theorem with_ok (p : Option Addr) (n c : Nat) (xs : List Int) (i : Nat) (on : Bool) (w : World) (hb : BI w p n xs) (h : i / 8 < n) (hi : i < 9223372036854775808) :
    Calls Tryz.prog 222 #[.slice p n c, .int .i64 i, .bool on] w fun e w' => ∃ g cap, e = .returned (.tuple #[.slice (some ⟨g, 0, none⟩) n cap, .int .i64 0]) ∧ Own w.heap.size w' g n cap (Bit.put xs i on) ∧ Below w.heap.size w w' := by
  obtain ⟨i0, hi0, hz0, hz1, hz2⟩ := info_parts info5
  have hbig := hb.big
  have hlen := hb.len
  have h0 : (0 : Int) ≤ (i : Int) := by omega
  have h1 : (i : Int) / 8 < (n : Int) := by omega
  have hx := Bit.bits_at _ (hb.byt (i / 8)).1 (hb.byt (i / 8)).2 i
  have h2 : (0 : Int) ≤ (i : Int) / 8 := by omega
  have h3 : ((i / 8 : Nat) : Int) < (n : Int) := by omega
  have h4 : (0 : Int) ≤ ((i / 8 : Nat) : Int) := by omega
  go_enter Tryz.func222, Tryz.ntmps222
  go_wp2_with (first
    | (go_at_call 224; refine same_at (within_yes p n c i _ hbig h hi) ?_)
    | (at_make; refine wpList_make_full _ rfl _ _ 42 rfl w.heap.size 5 i0 (.int .u8 0) 1 Tryz.underlying42 hi0 hz0 hz1 .i64 .i64 _ _ n rfl rfl rfl rfl (by rw [hz2]; omega) (by unfold maxLen; omega) (Nat.le_refl _) ?_; intro w1 hown1 hgrow1; have hb1 := (Below.refl w.heap.size w).grown hgrow1 (Nat.le_refl _) (by intro k hk; cases hk))
    | (refine wpList_copy_splice rfl _ _ 42 42 rfl 5 Tryz.underlying42 size5 _ _ _ _ _ _ rfl rfl w.heap.size 0 _ 5 (own_row hown1) (xs.map (Value.int .u8)) ?c1 ?c2 ?c3 ?c4 w.heap.size w hb1 (Nat.le_refl _) ?_))
  case c1 => simp [hlen]
  case c2 => intro hp; simpa using (hb.kept hb1).src (by simpa [hlen] using hp)
  case c3 => simp [madeCells, hlen]
  case c4 => exact one_cells xs
  intro w2 hg2 hb2
  have ho : Own w.heap.size w2 w.heap.size n n xs := by
    refine own_of_row (Nat.le_refl _) (by unfold maxLen; omega) hlen ?_
    have hg := hg2.out
    rw [splice_all _ _ (by simp [madeCells, hlen])] at hg
    exact hg
  clear hg2 hown1 hgrow1 hb1
  obtain ⟨q, HQ⟩ : ∃ q, Hid (i / 8 = q) := ⟨_, rfl⟩
  have hqn : q < n := by rw [← HQ.out]; exact h
  have hqI : (q : Int) < (n : Int) := by omega
  have hq0 : (0 : Int) ≤ (q : Int) := by omega
  have HO : Hid (Own w.heap.size (w2.setCell ⟨w.heap.size, i / 8, none⟩ (.int .u8 (Bit.turn (xs.getD (i / 8) 0) (Bit.mk i) on))) w.heap.size n n (Bit.put xs i on)) := ho.set (i / 8) _
  rw [HQ.out] at HO hx
  have hc1 := ho.cell q hqn
  have hf1 := World.ownsRow.frozenAt ho q
  have hb3 := hb2.setCell (p := ⟨w.heap.size, q, none⟩) (Nat.le_refl _) (.int .u8 (Bit.turn (xs.getD q 0) (Bit.mk i) on))
  have h5 : (i : Int) / 8 = (q : Int) := by have := HQ.out; omega
  have hwq := IntWalk.i64_in (q : Int) (by omega)
  clear ho h
  generalize xs.getD q 0 = x at *
  obtain ⟨x1, x2, x3, x4, x5⟩ := hx
  cases on
  · have X := (show Hid _ from x3)
    clear x1 x2 x3 x4 x5
    go_wp2
    go_region_with (first | (go_at_call 225; refine same_at (mask_ok i _ hi) ?_))
    all_goals go_wp2
    all_goals go_ret2
    all_goals rw [X.out]
    all_goals exact ⟨_, _, rfl, HO.out.kept (below_drewN (Below.refl _ _) 1), below_drewN hb3 1⟩
  · have X := (show Hid _ from x2)
    clear x1 x2 x3 x4 x5
    go_wp2
    go_region_with (first | (go_at_call 225; refine same_at (mask_ok i _ hi) ?_))
    all_goals go_wp2
    all_goals go_ret2
    all_goals rw [X.out]
    all_goals exact ⟨_, _, rfl, HO.out.kept (below_drewN (Below.refl _ _) 1), below_drewN hb3 1⟩

set_option maxRecDepth 100000 in
set_option maxHeartbeats 1000000 in
theorem rwith_ok (a0 : Addr) (n c : Nat) (xs : List Int) (i : Nat) (on : Bool) (w : World) (hb : BI w (some a0) n xs) (h : i / 8 < n) (hi : i < 9223372036854775808) :
    Calls Tryz.prog 181 #[.slice (some a0) n c, .int .i64 i, .bool on] w fun e w' => ∃ g cap, e = .returned (.tuple #[.slice (some ⟨g, 0, none⟩) n cap, .int .i64 0]) ∧ Own w.heap.size w' g n cap (Bit.put xs i on) ∧ Below w.heap.size w w' := by
  obtain ⟨i0, hi0, hz0, hz1, hz2⟩ := info_parts info5
  have hbig := hb.big
  have hlen := hb.len
  have h0 : (0 : Int) ≤ (i : Int) := by omega
  have h1 : (i : Int) / 8 < (n : Int) := by omega
  have h2 : (0 : Int) ≤ (i : Int) / 8 := by omega
  have hx := Bit.bits_at _ (hb.byt (i / 8)).1 (hb.byt (i / 8)).2 i
  have hq := fun W => run_quo8 i W hi
  have hb0 := (Below.refl w.heap.size w).alloc (Nat.le_refl _) (Obj.cells #[] 5)
  go_enter Tryz.func181, Tryz.ntmps181
  go_wp2_with (first | (at_builtin; refine wpList_append_own _ rfl _ _ 42 rfl w.heap.size 5 i0 (.int .u8 0) 1 1 Tryz.underlying42 hi0 hz0 hz1 hz2 rfl (by decide) _ _ _ rfl (World.ownsRow_made w #[] 0 (Nat.le_refl _) (Nat.zero_le _) rfl) a0 n c (xs.map (Value.int .u8)) rfl ?c1 ?c2 ?c3 ?c4 ?c5 ?c6 ?_))
  case c1 => simp [hlen]
  case c2 => exact (hb.kept hb0).src'
  case c3 => exact one_cells xs
  case c4 => unfold maxLen; omega
  case c5 => omega
  case c6 => simp
  intro v' w1 hown hgrow hnil
  obtain ⟨g, cap, hv, ho⟩ := own_shape hown (by first | exact hnil | (intro e; exact absurd (hnil.1 e).1 (by simp)))
  rw [hv]
  have hb1 := hb0.grown hgrow (by simp) (by intro k hk; simp [Value.ownBlock] at hk; omega)
  clear hown hnil hv hgrow hb0
  have hh := rhas_yes (some a0) n c xs i w1 (hb.kept hb1) h hi
  have HO : Hid (Own w.heap.size (w1.setCell ⟨g, i / 8, none⟩ (.int .u8 (Bit.turn (xs.getD (i / 8) 0) (Bit.mk i) on))) g n cap (Bit.put xs i on)) := ho.set (i / 8) _
  have hb3 := hb1.setCell (p := ⟨g, i / 8, none⟩) ho.spot.1 (.int .u8 (Bit.turn (xs.getD (i / 8) 0) (Bit.mk i) on))
  by_cases hon : Bit.on xs i = on
  · have HS : Hid (Bit.put xs i on = xs) := by
      show Bit.put xs i on = xs
      unfold Bit.put
      have e : Bit.turn (xs.getD (i / 8) 0) (Bit.mk i) on = xs.getD (i / 8) 0 := by
        unfold Bit.on at hon
        unfold Bit.turn
        subst hon
        by_cases k : xs.getD (i / 8) 0 / Bit.mk i % 2 = 1
        · simp only [k, decide_true, if_true]
        · simp only [k, decide_false, if_false, Bool.false_eq_true]
      rw [e, List.getD_eq_getElem?_getD, List.getElem?_eq_getElem (by omega)]
      simp
    have HB := (show Hid _ from hb1)
    clear hx hb3 HO
    generalize Bit.on xs i = onv at *
    subst hon
    go_wp2_with (first | (go_at_call 255; refine same_at hh ?_))
    go_ret2
    exact ⟨_, _, rfl, by rw [HS.out]; exact ho, hb1⟩
  · obtain ⟨x1, x2, x3, x4, x5⟩ := hx
    have X : Hid (bits BinOp.xor .u8 (xs.getD (i / 8) 0) (2 ^ (i % 8) % 256) = Bit.turn (xs.getD (i / 8) 0) (Bit.mk i) on) := by
      show bits BinOp.xor .u8 (xs.getD (i / 8) 0) (2 ^ (i % 8) % 256) = Bit.turn (xs.getD (i / 8) 0) (Bit.mk i) on
      have e1 : (2 : Int) ^ (i % 8) % 256 = Bit.mk i := by
        have := Bit.mk_cases i
        unfold Bit.mk at *
        omega
      have e2 : (! decide (xs.getD (i / 8) 0 / Bit.mk i % 2 = 1)) = on := by
        have : decide (xs.getD (i / 8) 0 / Bit.mk i % 2 = 1) = Bit.on xs i := rfl
        rw [this]
        revert hon
        cases Bit.on xs i <;> cases on <;> simp
      rw [e1, x4, e2]
    clear x1 x2 x3 x4 x5
    obtain ⟨q, HQ⟩ : ∃ q, Hid (i / 8 = q) := ⟨_, rfl⟩
    have hqn : q < n := by rw [← HQ.out]; exact h
    have hqI : (q : Int) < (n : Int) := by omega
    have hq0 : (0 : Int) ≤ (q : Int) := by omega
    have h5 : (i : Int) / 8 = (q : Int) := by have := HQ.out; omega
    have hwq := IntWalk.i64_in (q : Int) (by omega)
    have hc1 := ho.cell q hqn
    have hf1 := World.ownsRow.frozenAt ho q
    rw [HQ.out] at HO X hb3
    clear ho h1 h2 hq
    generalize xs.getD q 0 = x at *
    generalize Bit.on xs i = onv at *
    obtain rfl : onv = ! on := by revert hon; cases onv <;> cases on <;> simp
    clear hon
    have ht : ((! on) != on) = true := by cases on <;> rfl
    go_wp2_with (first | (go_at_call 255; refine same_at hh ?_))
    go_region
    go_wp2
    go_ret2
    rw [X.out]
    exact ⟨_, _, rfl, HO.out.kept (below_drewN (Below.refl _ _) 1), below_drewN hb3 1⟩

end Go.Proofs.YthdlpeejmmobmaaGreat.Mk

namespace Go.Proofs.YthdlpeejmmobmaaGreat.Mk
open Go.RowKit
set_option maxRecDepth 100000
set_option linter.unusedVariables false

theorem wpList_eql_wanted {P : Program} {ops : Array Oper} {rest : List Oper} {o : Oper} {a : Act} {w : World} {Q : Exit → Act → World → Prop} (hwant : Region.wanted o (yielded ops a.tmps) = true) (t : TypeId) (x y : Operand) (ho : o.op = .binOp .eql t x y t)
    (A B : Array Value) (hx : a.eval x = .agg A) (hy : a.eval y = .agg B) (hg : P.eqGuardType P.depth t = false) (r : Bool) (hr : (Op.equalIn 10000 t (.agg A) (.agg B)).run P w = .ok r w)
    (h : wpList P ops Q rest (a.put o.dst (.bool r)) w) : wpList P ops Q (o :: rest) a w :=
  wpList_step fun K hK => by
    rw [if_pos hwant]
    unfold Oper.wp
    have h1 := run_eqGuard_agg (P := P) (w := w) BinOp.eql t x y A B hg
    have h2 := run_eql_struct (P := P) (w := w) t A B
    rw [hr] at h2
    simp [execOp, ho, hx, hy, h1, h2, Result.andThen]
    exact hK _ _ h
end Go.Proofs.YthdlpeejmmobmaaGreat.Mk

namespace Go.Proofs.YthdlpeejmmobmaaGreat.Mk
open Go.RowKit
set_option maxRecDepth 100000
set_option linter.unusedVariables false

def Ads (zs : List Int) : Prop := ∀ z ∈ zs, 0 ≤ z ∧ z ≤ 2047
instance (zs : List Int) : Decidable (Ads zs) := by unfold Ads; infer_instance

abbrev dinV (m l s a b c d i j : Int) : Value := .agg #[.int .i64 m, .int .i64 l, .int .i64 s, .int .i64 a, .int .i64 b, .int .i64 c, .int .i64 d, .int .i64 i, .int .i64 j]
abbrev dinO (m l s a b c d i j : Int) : Obj := .cells #[.int .i64 m, .int .i64 l, .int .i64 s, .int .i64 a, .int .i64 b, .int .i64 c, .int .i64 d, .int .i64 i, .int .i64 j] 75

/-- What files and directories have in common. -/
def UMay (l s a b c d i j : Int) : Prop := (0 ≤ l ∧ l ≤ 1000) ∧ (0 ≤ s ∧ s ≤ 532992) ∧ Ads [a, b, c, d] ∧ Ads [i, j]
instance (l s a b c d i j : Int) : Decidable (UMay l s a b c d i j) := by unfold UMay; infer_instance

set_option maxRecDepth 10000 in
set_option maxHeartbeats 1000000 in
theorem eq43 (a b c d e f g h : Int) (w : World) : (Op.equalIn 9999 73 (.agg #[.int .i64 a, .int .i64 b, .int .i64 c, .int .i64 d]) (.agg #[.int .i64 e, .int .i64 f, .int .i64 g, .int .i64 h])).run Tryz.prog w = .ok (a == e && b == f && c == g && d == h) w := by
  have u3 := Tryz.underlying3
  have a3 := Tryz.isAgg3
  have z3 := Tryz.sizeOf3
  rw [show (9999 : Nat) = 9998 + 1 from rfl, Op.equalIn]
  simp only [Sem.run_bind, run_underlying Tryz.underlying73, Result.andThen_ok]
  simp only [Std.Legacy.Range.forIn_eq_forIn_range', Std.Legacy.Range.size, Nat.sub_zero, Nat.add_sub_cancel, Nat.div_one, List.range'_succ, List.range'_zero, List.forIn_cons, List.forIn_nil]
  go_simp
  by_cases h1 : a = e <;> by_cases h2 : b = f <;> by_cases h3 : c = g <;> by_cases h4 : d = h <;> simp [h1, h2, h3, h4]

/-- Inodes compared. -/
theorem eq45 (m l s a b c d i j m' l' s' a' b' c' d' i' j' : Int) (w : World) : (Op.equalIn 10000 75 (.agg #[.int .i64 m, .int .i64 l, .int .i64 s, .int .i64 a, .int .i64 b, .int .i64 c, .int .i64 d, .int .i64 i, .int .i64 j]) (.agg #[.int .i64 m', .int .i64 l', .int .i64 s', .int .i64 a', .int .i64 b', .int .i64 c', .int .i64 d', .int .i64 i', .int .i64 j'])).run Tryz.prog w = .ok (decide (m = m' ∧ l = l' ∧ s = s' ∧ (a = a' ∧ b = b' ∧ c = c' ∧ d = d') ∧ i = i' ∧ j = j')) w := by
  have u3 := Tryz.underlying3
  have a3 := Tryz.isAgg3
  have z3 := Tryz.sizeOf3
  have q := eq43 a b c d a' b' c' d'
  have hS : Tryz.prog.underlying 75 = some (.struct (Tryz.prog.fieldsOf 75)) := by kernel_rfl
  have hp : Tryz.prog.stoodInHeld 75 = false := by kernel_rfl
  have hq : (a == a' && b == b' && c == c' && d == d') = decide (a = a' ∧ b = b' ∧ c = c' ∧ d = d') := by
    rw [Bool.eq_iff_iff]; simp; constructor
    · rintro ⟨⟨⟨h1, h2⟩, h3⟩, h4⟩; exact ⟨h1, h2, h3, h4⟩
    · rintro ⟨h1, h2, h3, h4⟩; exact ⟨⟨⟨h1, h2⟩, h3⟩, h4⟩
  rw [hq] at q
  clear hq
  rw [show (10000 : Nat) = 9999 + 1 from rfl, run_equalIn_agg w 9999 75 _ _ hS hp]
  simp only [Program.fieldsOf, Tryz.underlying75]
  by_cases hX : (a = a' ∧ b = b' ∧ c = c' ∧ d = d')
  · rw [decide_eq_true hX] at q
    rw [show decide (m = m' ∧ l = l' ∧ s = s' ∧ (a = a' ∧ b = b' ∧ c = c' ∧ d = d') ∧ i = i' ∧ j = j') = decide (m = m' ∧ l = l' ∧ s = s' ∧ i = i' ∧ j = j') from decide_eq_decide.2 ⟨fun k => ⟨k.1, k.2.1, k.2.2.1, k.2.2.2.2⟩, fun k => ⟨k.1, k.2.1, k.2.2.1, hX, k.2.2.2⟩⟩]
    clear hX
    go_simp
    by_cases h1 : m = m' <;> by_cases h2 : l = l' <;> by_cases h3 : s = s' <;> by_cases h4 : i = i' <;> by_cases h5 : j = j' <;> simp [h1, h2, h3, h4, h5]
  · rw [decide_eq_false hX] at q
    rw [show decide (m = m' ∧ l = l' ∧ s = s' ∧ (a = a' ∧ b = b' ∧ c = c' ∧ d = d') ∧ i = i' ∧ j = j') = false from decide_eq_false (fun k => hX k.2.2.2.1)]
    clear hX
    go_simp
theorem guard45 : Tryz.prog.eqGuardType Tryz.prog.depth 75 = false := by kernel_rfl

/-- Whether an inode may be. -/
def DMay (m l s a b c d i j : Int) : Prop := (m = 0 ∧ l = 0 ∧ s = 0 ∧ a = 0 ∧ b = 0 ∧ c = 0 ∧ d = 0 ∧ i = 0 ∧ j = 0) ∨ (m = 1 ∧ UMay l s a b c d i j) ∨ (m = 2 ∧ UMay l s a b c d i j ∧ s % 128 = 0)
instance (m l s a b c d i j : Int) : Decidable (DMay m l s a b c d i j) := by unfold DMay; infer_instance

end Go.Proofs.YthdlpeejmmobmaaGreat.Mk

namespace Go.Proofs.YthdlpeejmmobmaaGreat.Mk
open Go.RowKit
set_option maxRecDepth 100000
set_option linter.unusedVariables false

/-- An inode's bytes, but for the sum. -/
def dinL (m l s a b c d i j : Int) : List Int := Num.putTo (Num.putTo (putsTo (Num.putTo (Num.putTo (Num.putTo (zers 32) 0 m 1) 2 l 2) 4 s 4) 8 2 [a, b, c, d] 4) 16 i 2) 18 j 2
def dinS (m l s a b c d i j : Int) : List Int := sealL (dinL m l s a b c d i j)
/-- An inode's bytes: a free one's are all 0. -/
def dinB (m l s a b c d i j : Int) : List Int := if m = 0 then zers 32 else dinS m l s a b c d i j

theorem dinL_len (m l s a b c d i j : Int) : (dinL m l s a b c d i j).length = 32 := by
  unfold dinL
  simp only [Num.putTo_length, putsTo_len, zers_len]
theorem dinL_byt (m l s a b c d i j : Int) : Num.Byt (dinL m l s a b c d i j) :=
  Num.putTo_byt (Num.putTo_byt (putsTo_byt (Num.putTo_byt (Num.putTo_byt (Num.putTo_byt (zers_byt _) _ _ _) _ _ _) _ _ _) _ _ _ _) _ _ _) _ _ _
theorem din_all (w : World) (m l s a b c d i j : Int) : (w.alloc (dinO m l s a b c d i j)).cell? ⟨w.heap.size, 0, none⟩ = some (.int .i64 m) ∧ (w.alloc (dinO m l s a b c d i j)).cell? ⟨w.heap.size, 1, none⟩ = some (.int .i64 l) ∧ (w.alloc (dinO m l s a b c d i j)).cell? ⟨w.heap.size, 2, none⟩ = some (.int .i64 s) ∧ (w.alloc (dinO m l s a b c d i j)).cell? ⟨w.heap.size, 7, none⟩ = some (.int .i64 i) ∧ (w.alloc (dinO m l s a b c d i j)).cell? ⟨w.heap.size, 8, none⟩ = some (.int .i64 j) :=
  ⟨cell_row (heap_new w _) 0 _ rfl, cell_row (heap_new w _) 1 _ rfl, cell_row (heap_new w _) 2 _ rfl, cell_row (heap_new w _) 7 _ rfl, cell_row (heap_new w _) 8 _ rfl⟩
end Go.Proofs.YthdlpeejmmobmaaGreat.Mk
