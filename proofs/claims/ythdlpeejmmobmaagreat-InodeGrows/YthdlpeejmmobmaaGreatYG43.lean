/- J13 J15 J16 -/
import Derived.Test.YthdlpeejmmobmaaGreatYG42
import Derived.Test.YthdlpeejmmobmaaGreatYG01

namespace Go.Proofs.YthdlpeejmmobmaaGreat
open Go.RowKit Go.Maps
set_option linter.unusedVariables false
set_option maxRecDepth 100000
def prt (val : Nat → Nat) (b d : Nat) : Nat → List Nat
 | 0 => []
 | j + 1 => prt val b d j ++ spn val d (b + j)
def fbase (k : Nat) : Nat := if k = 0 then 0 else if k = 1 then 4 else 5
def fcnt (k : Nat) : Nat := if k = 0 then 4 else 1
def accS (val : Nat → Nat) : Nat → List Nat
 | 0 => []
 | k + 1 => accS val k ++ prt val (fbase k) k (fcnt k)
def cbs (k : Nat) : Nat := if k ≤ 1 then 0 else if k = 2 then 1 else 66
theorem accS_span (val : Nat → Nat) : accS val 3 = span val := by
 show (([] ++ ((((([] ++ spn val 0 0) ++ spn val 0 1) ++ spn val 0 2) ++ spn val 0 3))) ++ ([] ++ spn val 1 4)) ++ ([] ++ spn val 2 5) = _
 simp [span, List.append_assoc]
theorem prt_len (val : Nat → Nat) {b d : Nat} (hd : d ≤ 2) : ∀ j, (prt val b d j).length ≤ j * 4161
 | 0 => by simp [prt]
 | j + 1 => by
  have h1 := prt_len val (b := b) hd j
  have h2 := spn_len val hd (b + j)
  rw [prt, List.length_append, Nat.add_mul]
  omega
theorem accS_len (val : Nat → Nat) : ∀ k, k ≤ 3 → (accS val k).length ≤ k * 16644
 | 0, _ => by simp [accS]
 | k + 1, h => by
  have h1 := accS_len val k (by omega)
  have h2 := prt_len val (b := fbase k) (d := k) (by omega) (fcnt k)
  have h3 : fcnt k ≤ 4 := by unfold fcnt; split <;> omega
  have h4 : fcnt k * 4161 ≤ 4 * 4161 := Nat.mul_le_mul_right _ h3
  rw [accS, List.length_append, Nat.add_mul]
  omega
theorem dep_f {k j : Nat} (hk : k < 3) (hj : j < fcnt k) : Dep k (fbase k + j) := by
 rcases (by omega : k = 0 ∨ k = 1 ∨ k = 2) with rfl | rfl | rfl
 ·have : j < 4 := hj
  exact ⟨by show 0 + j < 4230; omega, fun e => by omega, fun e => by omega, by omega⟩
 ·have : j < 1 := hj
  exact ⟨by show 4 + j < 4230; omega, fun _ => .inl (by show 4 + j = 4; omega), fun e => by omega, by omega⟩
 ·have : j < 1 := hj
  exact ⟨by show 5 + j < 4230; omega, fun e => by omega, fun _ => by show 5 + j = 5; omega, by omega⟩
def SpnR (w : World) (v : Nat) (F : Nat → Prop) (N : Nat) (I : Nat → List Int) (l c k : Nat) (L : List Nat) (e : Ending) (w' : World) : Prop :=
 ∃ (q : Option Addr) (cp : Nat) (F' : Nat → Prop) (c' : Nat), e = .returned (.tuple #[.slice q L.length cp, .int .i64 0]) ∧ Pt.II w' q L.length (nlist L) ∧ L.length ≤ 50000 ∧ c' ≤ c + k ∧ Vol w' v F' N I l c' ∧ Pt.Stp F F' w w' ∧ ∀ j, Pt.blkOf q = some j → w.heap.size ≤ j ∧ j < w'.heap.size ∧ ¬ F' j
def SpL (w wx : World) (v : Nat) (F : Nat → Prop) (N : Nat) (I : Nat → List Int) (l cc xa xb xe : Nat) (L : List Nat) (u : Value) (wr : World) : Prop :=
 ∃ (F2 : Nat → Prop) (c2 : Nat), Nrw w.heap.size wr u (nlist L) (FX F2 xa) xb ∧ Vol wr v F2 N I l c2 ∧ c2 ≤ cc ∧ Pt.Stp F F2 w wr ∧ (∀ j, j = w.heap.size + 1 ∨ j = xa ∨ j = xb ∨ j = xe → wr.heap[j]? = wx.heap[j]? ∧ ¬ F2 j) ∧ wx.heap.size ≤ wr.heap.size
def SpO (w wx : World) (v : Nat) (F : Nat → Prop) (N : Nat) (I : Nat → List Int) (l c xa xb xe : Nat) (val : Nat → Nat) (u iv : Value) (wr : World) : Prop :=
 ∃ k : Nat, k ≤ 3 ∧ iv = .int .i64 (k : Int) ∧ SpL w wx v F N I l (c + cbs k) xa xb xe (accS val k) u wr
def SpI (w wx : World) (v : Nat) (F : Nat → Prop) (N : Nat) (I : Nat → List Int) (l c xa xb xe : Nat) (val : Nat → Nat) (k : Nat) (u iv : Value) (wr : World) : Prop :=
 ∃ j : Nat, j ≤ fcnt k ∧ iv = .int .i64 (j : Int) ∧ SpL w wx v F N I l (c + cbs k + j * rdc k) xa xb xe (accS val k ++ prt val (fbase k) k j) u wr
section
variable {w w' : World} {v : Nat} {F : Nat → Prop} {N : Nat} {I : Nat → List Int} {l c G B Q : Nat}
set_option maxHeartbeats 8000000 in
theorem span_ok (h : Vol w v F N I l c) (hg : Geo G B Q N) {val : Nat → Nat} (hT : Tre (adI I) val) (hR : ∀ i, i < 4230 → val i ≠ 0 → val i < N) (m ln sz : Int) (hc : c + 1000 < 4611686018427387904) :
  Calls Tryz.prog 34 #[.pointer (some ⟨v, 0, none⟩), Mk.geomV G B Q, dinW m ln sz val] w (SpnR w v F N I l c 66 (span val)) := by
 obtain ⟨W, hW⟩ : ∃ W, (w.alloc (Mk.geomO G B Q)).alloc (dinX m ln sz val) = W := ⟨_, rfl⟩
 have hb : Below w.heap.size w W := by rw [← hW]; exact ((Below.refl _ _).alloc (Nat.le_refl _) _).alloc (by simp) _
 have hgr : W.heap[w.heap.size]? = some (Mk.geomO G B Q) := by rw [← hW]; exact at_old (at_new rfl)
 have hdx : W.heap[w.heap.size + 1]? = some (dinX m ln sz val) := by rw [← hW]; exact at_new (by simp)
 have hsz : W.heap.size = w.heap.size + 2 := by rw [← hW]; simp
 have hlt := h.lt
 have hv := h.later hb
 have hrf := irefusal_ok hv hg
 have c0 := (g3_of hgr).c0
 have c1 := (g3_of hgr).c1
 have c2 := (g3_of hgr).c2
 have hwu : dinX m ln sz val = .cells #[.int .i64 m, .int .i64 ln, .int .i64 sz, .int .i64 (val 0 : Int), .int .i64 (val 1 : Int), .int .i64 (val 2 : Int), .int .i64 (val 3 : Int), .int .i64 (val 4 : Int), .int .i64 (val 5 : Int)] 75 (0, 0) := rfl
 have HV : Hid (Vol W v F N I l c ∧ Below w.heap.size w W ∧ (∀ k, F k → k < w.heap.size)) := ⟨hv, hb, hlt⟩
 rw [hwu] at hW
 have edw : dinW m ln sz val = Mk.dinV m ln sz (val 0 : Int) (val 1 : Int) (val 2 : Int) (val 3 : Int) (val 4 : Int) (val 5 : Int) := rfl
 rw [edw]
 clear edw hv h hb hlt
 go_enter Tryz.func34, Tryz.ntmps34
 go_wp2_with fail
 refine Mk.grew_at hrf ?_
 intro w1 hb1
 have hs1 := hb1.size
 have hdx1 := (hb1.block _ (by omega)).trans hdx
 have hDi := dino_of hdx1
 have d4 := hDi 4 (by omega)
 have d5 := hDi 5 (by omega)
 have hD0 : w1.drew.heap.size = w1.heap.size := rfl
 dsimp only
 go_wp2_with fail
 go_cut [30, 31, 32] (fun v30 v31 v32 wx => v31 = .int .i64 3 ∧ v32 = .int .i64 0 ∧ ∃ a b e, v30 = .slice (some ⟨e, 0, none⟩) 3 3 ∧ wx.heap[a]? = some (.cells #[.int .i64 (val 4 : Int)] 3 (0, 0)) ∧ wx.heap[b]? = some (.cells #[.int .i64 (val 5 : Int)] 3 (0, 0)) ∧
   wx.heap[e]? = some (.cells #[.slice (some ⟨w.heap.size + 1, 3, none⟩) 4 4, .slice (some ⟨a, 0, none⟩) 1 1, .slice (some ⟨b, 0, none⟩) 1 1] 49 (0, 0)) ∧ w1.heap.size ≤ a ∧ w1.heap.size ≤ b ∧ w1.heap.size ≤ e ∧ Below w1.heap.size w1 wx)
 case first =>
  refine wp_region_held_drew (S := (fun w' => w'.cell? ⟨w.heap.size + 1, 7, none⟩ = some (.int .i64 (val 4 : Int)) ∧ w'.cell? ⟨w.heap.size + 1, 8, none⟩ = some (.int .i64 (val 5 : Int)))) (by kernel_rfl) ⟨d4, d5⟩ (fun hHeld => ?_)
  refine tk 0 ⟨some 22, .fieldAddr 75 (.tmp 5) 3, 0, "inode.go:62", #[], none⟩ ?_ ?_ hHeld ?_
  rotate_left
  ·(intro w hSw; (try dsimp only at hSw); go_simp; try (with_reducible rfl))
  simp only [Act.put, sA, sZ, sS]
  refine tk 1 ⟨some 23, .slice 73 (.tmp 22) none none none, 49, "inode.go:62", #[⟨0, .data⟩], none⟩ ?_ ?_ hHeld ?_
  rotate_left
  ·(intro w hSw; (try dsimp only at hSw); go_simp; try (with_reducible rfl))
  simp only [Act.put, sA, sZ, sS]
  refine tk 2 ⟨some 24, .fieldAddr 75 (.tmp 5) 4, 0, "inode.go:62", #[], none⟩ ?_ ?_ hHeld ?_
  rotate_left
  ·(intro w hSw; (try dsimp only at hSw); go_simp; try (with_reducible rfl))
  simp only [Act.put, sA, sZ, sS]
  refine tk 3 ⟨some 25, .load 3 (.tmp 24), 3, "inode.go:62", #[⟨2, .data⟩], none⟩ ?_ ?_ hHeld ?_
  rotate_left
  ·(intro w hSw; (try dsimp only at hSw); go_simp; try (with_reducible rfl))
  simp only [Act.put, sA, sZ, sS]
  refine tk 5 ⟨some 27, .fieldAddr 75 (.tmp 5) 5, 0, "inode.go:62", #[], none⟩ ?_ ?_ hHeld ?_
  rotate_left
  ·(intro w hSw; (try dsimp only at hSw); go_simp; try (with_reducible rfl))
  simp only [Act.put, sA, sZ, sS]
  refine tk 6 ⟨some 28, .load 3 (.tmp 27), 3, "inode.go:62", #[⟨5, .data⟩], none⟩ ?_ ?_ hHeld ?_
  rotate_left
  ·(intro w hSw; (try dsimp only at hSw); go_simp; try (with_reducible rfl))
  simp only [Act.put, sA, sZ, sS]
  refine tk 10 ⟨some 32, .move (.const (.int .i64 0)), 3, "inode.go:62", #[], none⟩ ?_ ?_ hHeld ?_
  rotate_left
  ·(intro w hSw; (try dsimp only at hSw); go_simp; try (with_reducible rfl))
  simp only [Act.put, sA, sZ, sS]
  refine wpAnyH_ready (rs := [4, 7]) (by kernel_rfl) (by simp) ?_
  refine AllReadyH.cons (o := ⟨some 26, .buildSlice 49 1 #[(0, .tmp 25)], 49, "inode.go:62", #[⟨3, .data⟩], none⟩) rfl (fun K hK => ?_) ?_
  ·rw [if_pos (by rfl)]
   go_simp
   refine hK.out _ _ ⟨Mk.cell_under d4 ((Below.refl w1.heap.size w1).drew.alloc (by first | (simp [hD0]; done) | (simp [hD0]; omega)) _) (by omega), Mk.cell_under d5 ((Below.refl w1.heap.size w1).drew.alloc (by first | (simp [hD0]; done) | (simp [hD0]; omega)) _) (by omega)⟩ (fun hHeld => ?_)
   clear hK K
   try simp only [Act.put, sA, sZ, sS]
   refine wpAnyH_ready (rs := [7]) (by kernel_rfl) (by simp) ?_
   refine AllReadyH.cons (o := ⟨some 29, .buildSlice 49 1 #[(0, .tmp 28)], 49, "inode.go:62", #[⟨6, .data⟩], none⟩) rfl (fun K hK => ?_) AllReadyH.nil
   rw [if_pos (by rfl)]
   go_simp
   refine hK.out _ _ ⟨Mk.cell_under d4 (((Below.refl w1.heap.size w1).drew.alloc (by first | (simp [hD0]; done) | (simp [hD0]; omega)) _).alloc (by first | (simp [hD0]; done) | (simp [hD0]; omega)) _) (by omega), Mk.cell_under d5 (((Below.refl w1.heap.size w1).drew.alloc (by first | (simp [hD0]; done) | (simp [hD0]; omega)) _).alloc (by first | (simp [hD0]; done) | (simp [hD0]; omega)) _) (by omega)⟩ (fun hHeld => ?_)
   clear hK K
   try simp only [Act.put, sA, sZ, sS]
   refine wpAnyH_ready (rs := [8]) (by kernel_rfl) (by simp) ?_
   refine AllReadyH.cons (o := ⟨some 30, .buildSlice 166 3 #[(0, .tmp 23), (1, .tmp 26), (2, .tmp 29)], 166, "inode.go:62", #[⟨1, .data⟩, ⟨4, .data⟩, ⟨7, .data⟩], none⟩) rfl (fun K hK => ?_) AllReadyH.nil
   rw [if_pos (by rfl)]
   go_simp
   refine hK.out _ _ ⟨Mk.cell_under d4 ((((Below.refl w1.heap.size w1).drew.alloc (by first | (simp [hD0]; done) | (simp [hD0]; omega)) _).alloc (by first | (simp [hD0]; done) | (simp [hD0]; omega)) _).alloc (by first | (simp [hD0]; done) | (simp [hD0]; omega)) _) (by omega), Mk.cell_under d5 ((((Below.refl w1.heap.size w1).drew.alloc (by first | (simp [hD0]; done) | (simp [hD0]; omega)) _).alloc (by first | (simp [hD0]; done) | (simp [hD0]; omega)) _).alloc (by first | (simp [hD0]; done) | (simp [hD0]; omega)) _) (by omega)⟩ (fun hHeld => ?_)
   clear hK K
   try simp only [Act.put, sA, sZ, sS]
   refine tk 9 ⟨some 31, .call { callee := .builtin Builtin.len, args := #[.tmp 30], argTypes := #[166] }, 3, "inode.go:62", #[⟨8, .data⟩], none⟩ ?_ ?_ hHeld ?_
   rotate_left
   ·(intro w hSw; (try dsimp only at hSw); go_simp; try (with_reducible rfl))
   simp only [Act.put, sA, sZ, sS]
   refine wpAnyH_done (by kernel_rfl) ?_ _
   go_wp2_with fail
   go_meet
   exact ⟨rfl, rfl, w1.heap.size, w1.heap.size + 1, w1.heap.size + 1 + 1, rfl, (show (((w1.alloc _).alloc _).alloc _).heap[_]? = _ from at_old (at_old (at_new rfl))), (show (((w1.alloc _).alloc _).alloc _).heap[_]? = _ from at_old (at_new (by simp))), (show (((w1.alloc _).alloc _).alloc _).heap[_]? = _ from at_new (by simp)), by omega, by omega, by omega, (((((Below.refl w1.heap.size w1).alloc (Nat.le_refl _) _).alloc (by first | (simp; done) | (simp; omega)) _).alloc (by first | (simp; done) | (simp; omega)) _).drew)⟩
  refine AllReadyH.cons (o := ⟨some 29, .buildSlice 49 1 #[(0, .tmp 28)], 49, "inode.go:62", #[⟨6, .data⟩], none⟩) rfl (fun K hK => ?_) AllReadyH.nil
  rw [if_pos (by rfl)]
  go_simp
  refine hK.out _ _ ⟨Mk.cell_under d4 ((Below.refl w1.heap.size w1).drew.alloc (by first | (simp [hD0]; done) | (simp [hD0]; omega)) _) (by omega), Mk.cell_under d5 ((Below.refl w1.heap.size w1).drew.alloc (by first | (simp [hD0]; done) | (simp [hD0]; omega)) _) (by omega)⟩ (fun hHeld => ?_)
  clear hK K
  try simp only [Act.put, sA, sZ, sS]
  refine wpAnyH_ready (rs := [4]) (by kernel_rfl) (by simp) ?_
  refine AllReadyH.cons (o := ⟨some 26, .buildSlice 49 1 #[(0, .tmp 25)], 49, "inode.go:62", #[⟨3, .data⟩], none⟩) rfl (fun K hK => ?_) AllReadyH.nil
  rw [if_pos (by rfl)]
  go_simp
  refine hK.out _ _ ⟨Mk.cell_under d4 (((Below.refl w1.heap.size w1).drew.alloc (by first | (simp [hD0]; done) | (simp [hD0]; omega)) _).alloc (by first | (simp [hD0]; done) | (simp [hD0]; omega)) _) (by omega), Mk.cell_under d5 (((Below.refl w1.heap.size w1).drew.alloc (by first | (simp [hD0]; done) | (simp [hD0]; omega)) _).alloc (by first | (simp [hD0]; done) | (simp [hD0]; omega)) _) (by omega)⟩ (fun hHeld => ?_)
  clear hK K
  try simp only [Act.put, sA, sZ, sS]
  refine wpAnyH_ready (rs := [8]) (by kernel_rfl) (by simp) ?_
  refine AllReadyH.cons (o := ⟨some 30, .buildSlice 166 3 #[(0, .tmp 23), (1, .tmp 26), (2, .tmp 29)], 166, "inode.go:62", #[⟨1, .data⟩, ⟨4, .data⟩, ⟨7, .data⟩], none⟩) rfl (fun K hK => ?_) AllReadyH.nil
  rw [if_pos (by rfl)]
  go_simp
  refine hK.out _ _ ⟨Mk.cell_under d4 ((((Below.refl w1.heap.size w1).drew.alloc (by first | (simp [hD0]; done) | (simp [hD0]; omega)) _).alloc (by first | (simp [hD0]; done) | (simp [hD0]; omega)) _).alloc (by first | (simp [hD0]; done) | (simp [hD0]; omega)) _) (by omega), Mk.cell_under d5 ((((Below.refl w1.heap.size w1).drew.alloc (by first | (simp [hD0]; done) | (simp [hD0]; omega)) _).alloc (by first | (simp [hD0]; done) | (simp [hD0]; omega)) _).alloc (by first | (simp [hD0]; done) | (simp [hD0]; omega)) _) (by omega)⟩ (fun hHeld => ?_)
  clear hK K
  try simp only [Act.put, sA, sZ, sS]
  refine tk 9 ⟨some 31, .call { callee := .builtin Builtin.len, args := #[.tmp 30], argTypes := #[166] }, 3, "inode.go:62", #[⟨8, .data⟩], none⟩ ?_ ?_ hHeld ?_
  rotate_left
  ·(intro w hSw; (try dsimp only at hSw); go_simp; try (with_reducible rfl))
  simp only [Act.put, sA, sZ, sS]
  refine wpAnyH_done (by kernel_rfl) ?_ _
  go_wp2_with fail
  go_meet
  exact ⟨rfl, rfl, w1.heap.size + 1, w1.heap.size, w1.heap.size + 1 + 1, rfl, (show (((w1.alloc _).alloc _).alloc _).heap[_]? = _ from at_old (at_new (by simp))), (show (((w1.alloc _).alloc _).alloc _).heap[_]? = _ from at_old (at_old (at_new rfl))), (show (((w1.alloc _).alloc _).alloc _).heap[_]? = _ from at_new (by simp)), by omega, by omega, by omega, (((((Below.refl w1.heap.size w1).alloc (Nat.le_refl _) _).alloc (by first | (simp; done) | (simp; omega)) _).alloc (by first | (simp; done) | (simp; omega)) _).drew)⟩
 case rest =>
  obtain ⟨rfl, rfl, xa, xb, xe, rfl, hxa, hxb, hxe, hla, hlb, hle, hbx⟩ := hcut
  rename World => wx
  have hsx := hbx.size
  obtain ⟨hvW, hbW, hltF⟩ := HV.out
  have hvx := (hvW.later hb1).later hbx
  have hla9 := (Array.getElem?_eq_some_iff.1 hxa).1
  have hlb9 := (Array.getElem?_eq_some_iff.1 hxb).1
  have hle9 := (Array.getElem?_eq_some_iff.1 hxe).1
  have hdxx := (hbx.block _ (by omega)).trans hdx1
  have hI0 : SpO w wx v F N I l c xa xb xe val (.slice none 0 0) (.int .i64 0) wx := ⟨0, by omega, rfl, F, c, nrw_nil _ _ _ _, hvx, by omega, stp_grown (stp_grown (stp_grown (Pt.Stp.refl F w) hbW) hb1) hbx, fun j hj => ⟨rfl, fun hf => by have := hltF j hf; omega⟩, Nat.le_refl _⟩
  have hN := hvx.N1.2
  have HD : Hid (wx.heap[w.heap.size + 1]? = some (dinX m ln sz val) ∧ wx.heap[xe]? = some (.cells #[.slice (some ⟨w.heap.size + 1, 3, none⟩) 4 4, .slice (some ⟨xa, 0, none⟩) 1 1, .slice (some ⟨xb, 0, none⟩) 1 1] 49 (0, 0))) := ⟨hdxx, hxe⟩
  have HX : Hid (w.heap.size + 1 < wx.heap.size ∧ w.heap.size ≤ xa ∧ w.heap.size ≤ xb ∧ w.heap.size ≤ xe) := ⟨by omega, by omega, by omega, by omega⟩
  have hfl : ∀ k, k < 3 → ∃ fb fo, (fb = w.heap.size + 1 ∨ fb = xa ∨ fb = xb ∨ fb = xe) ∧ wx.cell? ⟨xe, k, none⟩ = some (.slice (some ⟨fb, fo, none⟩) (fcnt k) (fcnt k)) ∧ ∀ j, j < fcnt k → wx.cell? ⟨fb, fo + j, none⟩ = some (.int .i64 (val (fbase k + j) : Int)) := by
   intro k hk
   rcases (by omega : k = 0 ∨ k = 1 ∨ k = 2) with rfl | rfl | rfl
   ·refine ⟨w.heap.size + 1, 3, .inl rfl, cell_of_row _ _ 0 _ _ _ hxe, fun j hj => ?_⟩
    have hj : j < 4 := hj
    have := dino_of hdxx j (by omega)
    rw [show fbase 0 + j = j from Nat.zero_add j]
    exact this
   ·refine ⟨xa, 0, .inr (.inl rfl), cell_of_row _ _ 1 _ _ _ hxe, fun j hj => ?_⟩
    have hj : j < 1 := hj
    obtain rfl : j = 0 := by omega
    exact cell_of_row _ _ 0 _ _ _ hxa
   ·refine ⟨xb, 0, .inr (.inr (.inl rfl)), cell_of_row _ _ 2 _ _ _ hxe, fun j hj => ?_⟩
    have hj : j < 1 := hj
    obtain rfl : j = 0 := by omega
    exact cell_of_row _ _ 0 _ _ _ hxb
  clear hvx hvW hbW hltF hb1 hbx hdx1 hDi d4 d5 hxa hxb hxe hla hlb hle hdxx hrf hgr hdx c0 c1 c2 hW hs1 hsx
  go_wp2_with fail
  go_loopw [9, 32] (fun u iv wr => SpO w wx v F N I l c xa xb xe val u iv wr) (fun _ iv _ => 3 - (intOf iv).toNat)
  case atStart => exact hI0
  case round =>
   clear hI0
   obtain ⟨k, hk, rfl, hsp⟩ := hrel
   by_cases hk3 : k < 3
   ·have hkI : (k : Int) < 3 := by omega
    obtain ⟨fb, fo, hfb, hfe, hfc⟩ := hfl k hk3
    have hsp2 := hsp
    obtain ⟨F2, c2, hrow, hv2, hc2, hst2, hbl2, hsz2⟩ := hsp
    have hce := (cell_keq (hbl2 xe (.inr (.inr (.inr rfl)))).1).trans hfe
    have hn4 : fcnt k ≤ 4 := by unfold fcnt; split <;> omega
    obtain ⟨n, hn⟩ : ∃ n, fcnt k = n := ⟨_, rfl⟩
    rw [hn] at hce hfc hn4
    have hJ0 : SpI w wx v F N I l c xa xb xe val k u9 (.int .i64 0) wr := ⟨0, by omega, rfl, by simpa [prt] using hsp2⟩
    clear hsp2 hrow hv2 hc2 hst2 hbl2 hsz2
    go_wp2_with fail
    go_loopw [9, 39] (fun u iv wy => SpI w wx v F N I l c xa xb xe val k u iv wy) (fun _ iv _ => n - (intOf iv).toNat)
    case atStart => exact hJ0
    case round =>
     clear hJ0 hce hfe
     rename World => wy
     obtain ⟨j, hj, rfl, F2, c2, hrow, hv2, hc2, hst2, hbl2, hsz2⟩ := hrel
     have hcr : j * rdc k ≤ 260 ∧ rdc k ≤ 65 ∧ cbs k ≤ 66 ∧ fcnt k * rdc k + cbs k = cbs (k + 1) := by
      rcases (by omega : k = 0 ∨ k = 1 ∨ k = 2) with rfl | rfl | rfl
      ·exact ⟨by simp [rdc], by decide, by decide, by decide⟩
      ·have : j ≤ 1 := hj
       exact ⟨by simp [rdc]; omega, by decide, by decide, by decide⟩
      ·have : j ≤ 1 := hj
       exact ⟨by simp [rdc]; omega, by decide, by decide, by decide⟩
     rw [hn] at hj hcr
     by_cases hjn : j < n
     ·have hjI : (j : Int) < (n : Int) := by omega
      have hcell := (cell_keq (hbl2 fb hfb).1).trans (hfc j hjn)
      have hdep : Dep k (fbase k + j) := dep_f hk3 (by rw [hn]; exact hjn)
      have hrc := reach_ok hv2 hT hR hdep (by omega)
      have hL1 := accS_len val k (by omega)
      have hL2 := prt_len val (b := fbase k) (d := k) (by omega) j
      have hL3 := spn_len val (d := k) (by omega) (fbase k + j)
      have hL4 : j * 4161 ≤ 4 * 4161 := Nat.mul_le_mul_right _ (by omega)
      have hjk : (j + 1) * rdc k = j * rdc k + rdc k := by rw [Nat.add_mul, Nat.one_mul]
      obtain ⟨A, hA⟩ : ∃ A, accS val k ++ prt val (fbase k) k j = A := ⟨_, rfl⟩
      have hnl : (nlist A).length ≤ 50000 + 16644 := by rw [nlist_len, ← hA, List.length_append]; omega
      have hnew : accS val k ++ prt val (fbase k) k (j + 1) = A ++ spn val k (fbase k + j) := by rw [← hA, List.append_assoc]; rfl
      obtain ⟨L, hL⟩ : ∃ L, spn val k (fbase k + j) = L := ⟨_, rfl⟩
      rw [hL] at hrc hnew hL3
      rw [hA] at hrow
      have HN : Hid (accS val k ++ prt val (fbase k) k (j + 1) = A ++ L) := hnew
      obtain ⟨y, hy⟩ : ∃ y, val (fbase k + j) = y := ⟨_, rfl⟩
      rw [hy] at hcell hrc
      clear hnew hL hA hL1 hL2 hL4 hdep hy
      go_wp2_with fail
      refine Calls.mono hrc ?_
      rintro e wb ⟨q3, cp3, F3, c3, rfl, hii3, hnil3, hc3, hv3, hst3, hq3⟩
      have hrow3 := hrow.stp (stp_fx (stp_fx hst3))
      have hsb := hst3.fr.size
      have hbl3 : ∀ j, j = w.heap.size + 1 ∨ j = xa ∨ j = xb ∨ j = xe → wb.heap[j]? = wx.heap[j]? ∧ ¬ F3 j := fun i hi => by
       have hil : i < wx.heap.size := by have := HX.out.1; rcases hi with rfl | rfl | rfl | rfl <;> omega
       exact ⟨(hst3.fr.block i (by omega) (hbl2 i hi).2).trans (hbl2 i hi).1, fun hf => (hst3.new i hf).elim (hbl2 i hi).2 (fun h9 => by have h9 : wy.heap.size ≤ i := h9; omega)⟩
      have hst4 := stp_trans hst2 hst3
      have hsz0 := hst2.fr.size
      clear hrow hst3 hrc hst2 hv2 hbl2
      dsimp only
      cases L with
      | nil =>
       obtain rfl := hnil3 rfl
       go_wp2_with (first | (at_builtin; refine wpList_nrw_nil rfl _ _ rfl hrow3 rfl rfl ?_))
       go_roundw
       case rel =>
        unfold SpI SpL
        refine ⟨j + 1, by omega, by push_cast; rfl, F3, c3, ?_, hv3, by omega, hst4, hbl3, by omega⟩
        rw [HN.out, List.append_nil]
        exact hrow3
       case measure => simp [intOf]; omega
      | cons y L' =>
       have hL1 : 0 < (y :: L').length := by simp
       obtain ⟨m, hm⟩ : ∃ m, (y :: L').length = m := ⟨_, rfl⟩
       rw [hm] at hii3 hL1 hL3 ⊢
       go_wp2_with (first | (at_builtin; refine wpList_nrw rfl _ _ rfl hrow3 rfl rfl hii3 hL1 (by omega) (by omega) (fun k hk => hk.elim (hv3.lt k) (fun e => by have := HX.out; omega)) (by have := HX.out; omega) ?_; intro u5 w5 hrow5 hg5))
       have hs5 := hg5.size
       go_roundw
       case rel =>
        unfold SpI SpL
        refine ⟨j + 1, by omega, by push_cast; rfl, F3, c3, ?_, hv3.else hg5.size (fun j hj => hrow3.vol hg5 (hv3.lt j hj) (.inl (.inl hj))), by omega, stp_low hst4 (hrow3.low hg5 (by omega)), ?_, by omega⟩
        ·rw [HN.out, nlist_app]; exact hrow5
        ·intro i hi
         have h9 := hbl3 i hi
         have hil : i < wx.heap.size := by have := HX.out.1; rcases hi with rfl | rfl | rfl | rfl <;> omega
         refine ⟨(hg5.block i (by omega) (fun e => ?_)).trans h9.1, h9.2⟩
         rcases hi with rfl | rfl | rfl | rfl
         ·exact hrow3.ne (h9.1.trans HD.out.1) (by decide) e.symm
         ·exact (hrow3.off _ e.symm).1 (.inr rfl)
         ·exact (hrow3.off _ e.symm).2 rfl
         ·exact hrow3.ne (h9.1.trans HD.out.2) (by decide) e.symm
       case measure => simp [intOf]; omega
     ·obtain rfl : j = n := by omega
      go_wp2_with fail
      go_roundw
      case rel =>
       unfold SpO SpL
       refine ⟨k + 1, by omega, by push_cast; rfl, F2, c2, ?_, hv2, by omega, hst2, hbl2, hsz2⟩
       rw [accS, hn]; exact hrow
      case measure => simp [intOf]; omega
   ·obtain rfl : k = 3 := by omega
    obtain ⟨F2, c2, hrow, hv2, hc2, hst2, hbl2, hsz2⟩ := hsp
    have h3l := accS_len val 3 (by omega)
    rw [accS_span] at hrow h3l
    have hall : ∀ y, y ∈ span val → y < 100000 := fun y hy => by
     obtain ⟨i, hi, h0, rfl⟩ := (span_iff hT y).1 hy
     have := hR i hi h0; omega
    have hrow9 := hrow.row
    rw [nlist_len] at hrow9
    obtain ⟨p9, c9, rfl, hii9, _⟩ := Mk.row_ii hrow9 (by omega)
    go_wp2_with fail
    go_ret2
    unfold SpnR
    refine ⟨p9, c9, F2, c2, rfl, ⟨hii9.len, hii9.big, fun z hz => ?_, hii9.cells⟩, by omega, hc2, hv2, hst2, fun j hj => ?_⟩
    ·obtain ⟨y, hy, rfl⟩ := List.mem_map.1 hz
     have := hall y hy
     exact ⟨by omega, by omega⟩
    ·cases p9 with
     | none => cases hj
     | some a =>
      have e9 : a.block = j := Option.some.inj hj
      have h8 := hrow9.lt j (by rw [← e9]; rfl)
      exact ⟨h8.1, h8.2, fun hf => (hrow.off j (by rw [← e9]; rfl)).1 (.inl hf)⟩
end
end Go.Proofs.YthdlpeejmmobmaaGreat

namespace Go.Proofs.YthdlpeejmmobmaaGreat
open Go.RowKit Go.Maps
open Mk.Al (putY rowOf)
set_option linter.unusedVariables false
set_option maxRecDepth 100000
theorem iP_mod {N G B Q : Nat} (hg : Geo G B Q N) {n : Nat} (hn : n < G * Q) : iP B Q n % B = 2 + n % Q / 4 ∧ 2 ≤ iP B Q n % B ∧ iP B Q n % B < 2 + Q / 4 := by
 have hfit := hg.fit
 have hfe : Mk.Al.fN false Q 0 < Mk.Al.eN false B Q := (Mk.Al.fe_lt hg.may false 0).1
 have hfe : 2 + Q / 4 < B := hfe
 have hm : n % Q < Q := Nat.mod_lt _ (by omega)
 have e : iP B Q n % B = 2 + n % Q / 4 := by
  unfold iP
  rw [Nat.add_assoc, Nat.add_comm (n / Q * B), Nat.add_mul_mod_self_right, Nat.mod_eq_of_lt (by omega)]
 omega
theorem hds_else {N G B Q : Nat} (hg : Geo G B Q N) {I : Nat → List Int} {H : Nat → List Int} (hH : Hds I G B H) (b o : Nat) (xs : List Int) (hb : b % B ≠ 1) : Hds (updI I b o xs) G B H := by
 have hfit := hg.fit
 refine ⟨fun k hk => ?_, hH.len, hH.byt⟩
 rw [← hH.at_ k hk]
 unfold updI
 rw [if_neg]
 intro e
 rw [← e, Nat.add_comm, Nat.add_mul_mod_self_right, Nat.mod_eq_of_lt (by omega)] at hb
 exact hb rfl
theorem iB_put {I : Nat → List Int} {B Q n : Nat} (hl : (I (iP B Q n)).length = 128) {xs : List Int} (hx : xs.length = 32) : iB (updI I (iP B Q n) (iA Q n) xs) B Q n = xs := by
 have hA : iA Q n + 32 ≤ 128 := by unfold iA; omega
 unfold iB updI lay
 rw [if_pos rfl, List.append_assoc, List.drop_left' (by rw [List.length_take]; omega), List.take_left' hx]
theorem putH_else {I : Nat → List Int} {B n : Nat} {ys : List Int} (hB : 1 < B) {j : Nat} (h : j % B ≠ 1) : putH I B n ys j = I j := by
 unfold putH
 rw [if_neg]
 intro e
 rw [e, Nat.add_comm, Nat.add_mul_mod_self_right, Nat.mod_eq_of_lt hB] at h
 exact h rfl
section
variable {w w' : World} {v : Nat} {F : Nat → Prop} {N : Nat} {I : Nat → List Int} {l c G B Q : Nat}
end
end Go.Proofs.YthdlpeejmmobmaaGreat

namespace Go.Proofs.YthdlpeejmmobmaaGreat
open Go.RowKit Go.Maps
open Mk.Al (putY rowOf)
set_option linter.unusedVariables false
set_option maxRecDepth 100000
theorem get_din {ys : List Int} {m ln sz a b c d i j : Int} (h : ys = Mk.dinB m ln sz a b c d i j) (hd : Mk.DMay m ln sz a b c d i j) : Mk.ddV 32 ys = Mk.dinV m ln sz a b c d i j ∧ Mk.ddE 32 ys = 0 := by
 rw [h]
 exact ⟨(Mk.dinode_back hd).2, (Mk.dinode_back hd).1⟩
theorem may_val {N : Nat} {val : Nat → Nat} (hR : ∀ i, i < 4230 → val i ≠ 0 → val i < N) (hN : N ≤ 2048) : Mk.DMay 1 1 0 (val 0 : Int) (val 1 : Int) (val 2 : Int) (val 3 : Int) (val 4 : Int) (val 5 : Int) := by
 have hv : ∀ i, i < 6 → (0 : Int) ≤ (val i : Int) ∧ (val i : Int) ≤ 2047 := fun i hi => by
  by_cases h0 : val i = 0
  ·omega
  ·have := hR i (by omega) h0; omega
 refine .inr (.inl ⟨rfl, ⟨by omega, by omega⟩, ⟨by omega, by omega⟩, ?_, ?_⟩)
 ·intro z hz
  simp only [List.mem_cons, List.not_mem_nil, or_false] at hz
  rcases hz with rfl | rfl | rfl | rfl
  ·exact hv 0 (by omega)
  ·exact hv 1 (by omega)
  ·exact hv 2 (by omega)
  ·exact hv 3 (by omega)
 ·intro z hz
  simp only [List.mem_cons, List.not_mem_nil, or_false] at hz
  rcases hz with rfl | rfl
  ·exact hv 4 (by omega)
  ·exact hv 5 (by omega)
section
variable {w w' : World} {v : Nat} {F : Nat → Prop} {N : Nat} {I : Nat → List Int} {l c G B Q : Nat}
end
end Go.Proofs.YthdlpeejmmobmaaGreat
