/- J13 J14 -/
import Derived.Test.YthdlpeejmmobmaaGreatYC42
import Derived.Test.YthdlpeejmmobmaaGreatYC01

namespace Go.Proofs.YthdlpeejmmobmaaGreat
open Go.RowKit Go.Maps
set_option linter.unusedVariables false
set_option maxRecDepth 100000
def prt (val : Nat → Nat) (b d : Nat) : Nat → List Nat
 | 0 => []
 | j + 1 => prt val b d j ++ spn val d (b + j)
def fbase (k : Nat) : Nat := if k = 0 then 0 else if k = 1 then 4 else 5
def fcnt (k : Nat) : Nat := if k = 0 then 4 else 1
def accS (val : Nat → Nat) : Nat → List Nat
 | 0 => []
 | k + 1 => accS val k ++ prt val (fbase k) k (fcnt k)
def cbs (k : Nat) : Nat := if k ≤ 1 then 0 else if k = 2 then 1 else 66
theorem accS_span (val : Nat → Nat) : accS val 3 = span val := by
 show (([] ++ ((((([] ++ spn val 0 0) ++ spn val 0 1) ++ spn val 0 2) ++ spn val 0 3))) ++ ([] ++ spn val 1 4)) ++ ([] ++ spn val 2 5) = _
 simp [span, List.append_assoc]
theorem prt_len (val : Nat → Nat) {b d : Nat} (hd : d ≤ 2) : ∀ j, (prt val b d j).length ≤ j * 4161
 | 0 => by simp [prt]
 | j + 1 => by
  have h1 := prt_len val (b := b) hd j
  have h2 := spn_len val hd (b + j)
  rw [prt, List.length_append, Nat.add_mul]
  omega
theorem accS_len (val : Nat → Nat) : ∀ k, k ≤ 3 → (accS val k).length ≤ k * 16644
 | 0, _ => by simp [accS]
 | k + 1, h => by
  have h1 := accS_len val k (by omega)
  have h2 := prt_len val (b := fbase k) (d := k) (by omega) (fcnt k)
  have h3 : fcnt k ≤ 4 := by unfold fcnt; split <;> omega
  have h4 : fcnt k * 4161 ≤ 4 * 4161 := Nat.mul_le_mul_right _ h3
  rw [accS, List.length_append, Nat.add_mul]
  omega
theorem dep_f {k j : Nat} (hk : k < 3) (hj : j < fcnt k) : Dep k (fbase k + j) := by
 rcases (by omega : k = 0 ∨ k = 1 ∨ k = 2) with rfl | rfl | rfl
 ·have : j < 4 := hj
  exact ⟨by show 0 + j < 4230; omega, fun e => by omega, fun e => by omega, by omega⟩
 ·have : j < 1 := hj
  exact ⟨by show 4 + j < 4230; omega, fun _ => .inl (by show 4 + j = 4; omega), fun e => by omega, by omega⟩
 ·have : j < 1 := hj
  exact ⟨by show 5 + j < 4230; omega, fun e => by omega, fun _ => by show 5 + j = 5; omega, by omega⟩
def SpnR (w : World) (v : Nat) (F : Nat → Prop) (N : Nat) (I : Nat → List Int) (l c k : Nat) (L : List Nat) (e : Ending) (w' : World) : Prop :=
 ∃ (q : Option Addr) (cp : Nat) (F' : Nat → Prop) (c' : Nat), e = .returned (.tuple #[.slice q L.length cp, .int .i64 0]) ∧ Pt.II w' q L.length (nlist L) ∧ L.length ≤ 50000 ∧ c' ≤ c + k ∧ Vol w' v F' N I l c' ∧ Pt.Stp F F' w w' ∧ ∀ j, Pt.blkOf q = some j → w.heap.size ≤ j ∧ j < w'.heap.size ∧ ¬ F' j
def SpL (w wx : World) (v : Nat) (F : Nat → Prop) (N : Nat) (I : Nat → List Int) (l cc xa xb xe : Nat) (L : List Nat) (u : Value) (wr : World) : Prop :=
 ∃ (F2 : Nat → Prop) (c2 : Nat), Nrw w.heap.size wr u (nlist L) (FX F2 xa) xb ∧ Vol wr v F2 N I l c2 ∧ c2 ≤ cc ∧ Pt.Stp F F2 w wr ∧ (∀ j, j = w.heap.size + 1 ∨ j = xa ∨ j = xb ∨ j = xe → wr.heap[j]? = wx.heap[j]? ∧ ¬ F2 j) ∧ wx.heap.size ≤ wr.heap.size
def SpO (w wx : World) (v : Nat) (F : Nat → Prop) (N : Nat) (I : Nat → List Int) (l c xa xb xe : Nat) (val : Nat → Nat) (u iv : Value) (wr : World) : Prop :=
 ∃ k : Nat, k ≤ 3 ∧ iv = .int .i64 (k : Int) ∧ SpL w wx v F N I l (c + cbs k) xa xb xe (accS val k) u wr
def SpI (w wx : World) (v : Nat) (F : Nat → Prop) (N : Nat) (I : Nat → List Int) (l c xa xb xe : Nat) (val : Nat → Nat) (k : Nat) (u iv : Value) (wr : World) : Prop :=
 ∃ j : Nat, j ≤ fcnt k ∧ iv = .int .i64 (j : Int) ∧ SpL w wx v F N I l (c + cbs k + j * rdc k) xa xb xe (accS val k ++ prt val (fbase k) k j) u wr
section
variable {w w' : World} {v : Nat} {F : Nat → Prop} {N : Nat} {I : Nat → List Int} {l c G B Q : Nat}
set_option maxHeartbeats 8000000 in
theorem span_ok (h : Vol w v F N I l c) (hg : Geo G B Q N) {val : Nat → Nat} (hT : Tre (adI I) val) (hR : ∀ i, i < 4230 → val i ≠ 0 → val i < N) (m ln sz : Int) (hc : c + 1000 < 4611686018427387904) :
  Calls Tryz.prog 34 #[.pointer (some ⟨v, 0, none⟩), Mk.geomV G B Q, dinW m ln sz val] w (SpnR w v F N I l c 66 (span val)) := by
 obtain ⟨W, hW⟩ : ∃ W, (w.alloc (Mk.geomO G B Q)).alloc (dinX m ln sz val) = W := ⟨_, rfl⟩
 have hb : Below w.heap.size w W := by rw [← hW]; exact ((Below.refl _ _).alloc (Nat.le_refl _) _).alloc (by simp) _
 have hgr : W.heap[w.heap.size]? = some (Mk.geomO G B Q) := by rw [← hW]; exact at_old (at_new rfl)
 have hdx : W.heap[w.heap.size + 1]? = some (dinX m ln sz val) := by rw [← hW]; exact at_new (by simp)
 have hsz : W.heap.size = w.heap.size + 2 := by rw [← hW]; simp
 have hlt := h.lt
 have hv := h.later hb
 have hrf := irefusal_ok hv hg
 have c0 := (g3_of hgr).c0
 have c1 := (g3_of hgr).c1
 have c2 := (g3_of hgr).c2
 have hwu : dinX m ln sz val = .cells #[.int .i64 m, .int .i64 ln, .int .i64 sz, .int .i64 (val 0 : Int), .int .i64 (val 1 : Int), .int .i64 (val 2 : Int), .int .i64 (val 3 : Int), .int .i64 (val 4 : Int), .int .i64 (val 5 : Int)] 75 (0, 0) := rfl
 have HV : Hid (Vol W v F N I l c ∧ Below w.heap.size w W ∧ (∀ k, F k → k < w.heap.size)) := ⟨hv, hb, hlt⟩
 rw [hwu] at hW
 have edw : dinW m ln sz val = Mk.dinV m ln sz (val 0 : Int) (val 1 : Int) (val 2 : Int) (val 3 : Int) (val 4 : Int) (val 5 : Int) := rfl
 rw [edw]
 clear edw hv h hb hlt
 go_enter Tryz.func34, Tryz.ntmps34
 go_wp2_with fail
 refine Mk.grew_at hrf ?_
 intro w1 hb1
 have hs1 := hb1.size
 have hdx1 := (hb1.block _ (by omega)).trans hdx
 have hDi := dino_of hdx1
 have d4 := hDi 4 (by omega)
 have d5 := hDi 5 (by omega)
 have hD0 : w1.drew.heap.size = w1.heap.size := rfl
 dsimp only
 go_wp2_with fail
 go_cut [30, 31, 32] (fun v30 v31 v32 wx => v31 = .int .i64 3 ∧ v32 = .int .i64 0 ∧ ∃ a b e, v30 = .slice (some ⟨e, 0, none⟩) 3 3 ∧ wx.heap[a]? = some (.cells #[.int .i64 (val 4 : Int)] 3 (0, 0)) ∧ wx.heap[b]? = some (.cells #[.int .i64 (val 5 : Int)] 3 (0, 0)) ∧
   wx.heap[e]? = some (.cells #[.slice (some ⟨w.heap.size + 1, 3, none⟩) 4 4, .slice (some ⟨a, 0, none⟩) 1 1, .slice (some ⟨b, 0, none⟩) 1 1] 49 (0, 0)) ∧ w1.heap.size ≤ a ∧ w1.heap.size ≤ b ∧ w1.heap.size ≤ e ∧ Below w1.heap.size w1 wx)
 case first =>
  refine wp_region_held_drew (S := (fun w' => w'.cell? ⟨w.heap.size + 1, 7, none⟩ = some (.int .i64 (val 4 : Int)) ∧ w'.cell? ⟨w.heap.size + 1, 8, none⟩ = some (.int .i64 (val 5 : Int)))) (by kernel_rfl) ⟨d4, d5⟩ (fun hHeld => ?_)
  refine tk 0 ⟨some 22, .fieldAddr 75 (.tmp 5) 3, 0, "inode.go:62", #[], none⟩ ?_ ?_ hHeld ?_
  rotate_left
  ·(intro w hSw; (try dsimp only at hSw); go_simp; try (with_reducible rfl))
  simp only [Act.put, sA, sZ, sS]
  refine tk 1 ⟨some 23, .slice 73 (.tmp 22) none none none, 49, "inode.go:62", #[⟨0, .data⟩], none⟩ ?_ ?_ hHeld ?_
  rotate_left
  ·(intro w hSw; (try dsimp only at hSw); go_simp; try (with_reducible rfl))
  simp only [Act.put, sA, sZ, sS]
  refine tk 2 ⟨some 24, .fieldAddr 75 (.tmp 5) 4, 0, "inode.go:62", #[], none⟩ ?_ ?_ hHeld ?_
  rotate_left
  ·(intro w hSw; (try dsimp only at hSw); go_simp; try (with_reducible rfl))
  simp only [Act.put, sA, sZ, sS]
  refine tk 3 ⟨some 25, .load 3 (.tmp 24), 3, "inode.go:62", #[⟨2, .data⟩], none⟩ ?_ ?_ hHeld ?_
  rotate_left
  ·(intro w hSw; (try dsimp only at hSw); go_simp; try (with_reducible rfl))
  simp only [Act.put, sA, sZ, sS]
  refine tk 5 ⟨some 27, .fieldAddr 75 (.tmp 5) 5, 0, "inode.go:62", #[], none⟩ ?_ ?_ hHeld ?_
  rotate_left
  ·(intro w hSw; (try dsimp only at hSw); go_simp; try (with_reducible rfl))
  simp only [Act.put, sA, sZ, sS]
  refine tk 6 ⟨some 28, .load 3 (.tmp 27), 3, "inode.go:62", #[⟨5, .data⟩], none⟩ ?_ ?_ hHeld ?_
  rotate_left
  ·(intro w hSw; (try dsimp only at hSw); go_simp; try (with_reducible rfl))
  simp only [Act.put, sA, sZ, sS]
  refine tk 10 ⟨some 32, .move (.const (.int .i64 0)), 3, "inode.go:62", #[], none⟩ ?_ ?_ hHeld ?_
  rotate_left
  ·(intro w hSw; (try dsimp only at hSw); go_simp; try (with_reducible rfl))
  simp only [Act.put, sA, sZ, sS]
  refine wpAnyH_ready (rs := [4, 7]) (by kernel_rfl) (by simp) ?_
  refine AllReadyH.cons (o := ⟨some 26, .buildSlice 49 1 #[(0, .tmp 25)], 49, "inode.go:62", #[⟨3, .data⟩], none⟩) rfl (fun K hK => ?_) ?_
  ·rw [if_pos (by rfl)]
   go_simp
   refine hK.out _ _ ⟨Mk.cell_under d4 ((Below.refl w1.heap.size w1).drew.alloc (by first | (simp [hD0]; done) | (simp [hD0]; omega)) _) (by omega), Mk.cell_under d5 ((Below.refl w1.heap.size w1).drew.alloc (by first | (simp [hD0]; done) | (simp [hD0]; omega)) _) (by omega)⟩ (fun hHeld => ?_)
   clear hK K
   try simp only [Act.put, sA, sZ, sS]
   refine wpAnyH_ready (rs := [7]) (by kernel_rfl) (by simp) ?_
   refine AllReadyH.cons (o := ⟨some 29, .buildSlice 49 1 #[(0, .tmp 28)], 49, "inode.go:62", #[⟨6, .data⟩], none⟩) rfl (fun K hK => ?_) AllReadyH.nil
   rw [if_pos (by rfl)]
   go_simp
   refine hK.out _ _ ⟨Mk.cell_under d4 (((Below.refl w1.heap.size w1).drew.alloc (by first | (simp [hD0]; done) | (simp [hD0]; omega)) _).alloc (by first | (simp [hD0]; done) | (simp [hD0]; omega)) _) (by omega), Mk.cell_under d5 (((Below.refl w1.heap.size w1).drew.alloc (by first | (simp [hD0]; done) | (simp [hD0]; omega)) _).alloc (by first | (simp [hD0]; done) | (simp [hD0]; omega)) _) (by omega)⟩ (fun hHeld => ?_)
   clear hK K
   try simp only [Act.put, sA, sZ, sS]
   refine wpAnyH_ready (rs := [8]) (by kernel_rfl) (by simp) ?_
   refine AllReadyH.cons (o := ⟨some 30, .buildSlice 166 3 #[(0, .tmp 23), (1, .tmp 26), (2, .tmp 29)], 166, "inode.go:62", #[⟨1, .data⟩, ⟨4, .data⟩, ⟨7, .data⟩], none⟩) rfl (fun K hK => ?_) AllReadyH.nil
   rw [if_pos (by rfl)]
   go_simp
   refine hK.out _ _ ⟨Mk.cell_under d4 ((((Below.refl w1.heap.size w1).drew.alloc (by first | (simp [hD0]; done) | (simp [hD0]; omega)) _).alloc (by first | (simp [hD0]; done) | (simp [hD0]; omega)) _).alloc (by first | (simp [hD0]; done) | (simp [hD0]; omega)) _) (by omega), Mk.cell_under d5 ((((Below.refl w1.heap.size w1).drew.alloc (by first | (simp [hD0]; done) | (simp [hD0]; omega)) _).alloc (by first | (simp [hD0]; done) | (simp [hD0]; omega)) _).alloc (by first | (simp [hD0]; done) | (simp [hD0]; omega)) _) (by omega)⟩ (fun hHeld => ?_)
   clear hK K
   try simp only [Act.put, sA, sZ, sS]
   refine tk 9 ⟨some 31, .call { callee := .builtin Builtin.len, args := #[.tmp 30], argTypes := #[166] }, 3, "inode.go:62", #[⟨8, .data⟩], none⟩ ?_ ?_ hHeld ?_
   rotate_left
   ·(intro w hSw; (try dsimp only at hSw); go_simp; try (with_reducible rfl))
   simp only [Act.put, sA, sZ, sS]
   refine wpAnyH_done (by kernel_rfl) ?_ _
   go_wp2_with fail
   go_meet
   exact ⟨rfl, rfl, w1.heap.size, w1.heap.size + 1, w1.heap.size + 1 + 1, rfl, (show (((w1.alloc _).alloc _).alloc _).heap[_]? = _ from at_old (at_old (at_new rfl))), (show (((w1.alloc _).alloc _).alloc _).heap[_]? = _ from at_old (at_new (by simp))), (show (((w1.alloc _).alloc _).alloc _).heap[_]? = _ from at_new (by simp)), by omega, by omega, by omega, (((((Below.refl w1.heap.size w1).alloc (Nat.le_refl _) _).alloc (by first | (simp; done) | (simp; omega)) _).alloc (by first | (simp; done) | (simp; omega)) _).drew)⟩
  refine AllReadyH.cons (o := ⟨some 29, .buildSlice 49 1 #[(0, .tmp 28)], 49, "inode.go:62", #[⟨6, .data⟩], none⟩) rfl (fun K hK => ?_) AllReadyH.nil
  rw [if_pos (by rfl)]
  go_simp
  refine hK.out _ _ ⟨Mk.cell_under d4 ((Below.refl w1.heap.size w1).drew.alloc (by first | (simp [hD0]; done) | (simp [hD0]; omega)) _) (by omega), Mk.cell_under d5 ((Below.refl w1.heap.size w1).drew.alloc (by first | (simp [hD0]; done) | (simp [hD0]; omega)) _) (by omega)⟩ (fun hHeld => ?_)
  clear hK K
  try simp only [Act.put, sA, sZ, sS]
  refine wpAnyH_ready (rs := [4]) (by kernel_rfl) (by simp) ?_
  refine AllReadyH.cons (o := ⟨some 26, .buildSlice 49 1 #[(0, .tmp 25)], 49, "inode.go:62", #[⟨3, .data⟩], none⟩) rfl (fun K hK => ?_) AllReadyH.nil
  rw [if_pos (by rfl)]
  go_simp
  refine hK.out _ _ ⟨Mk.cell_under d4 (((Below.refl w1.heap.size w1).drew.alloc (by first | (simp [hD0]; done) | (simp [hD0]; omega)) _).alloc (by first | (simp [hD0]; done) | (simp [hD0]; omega)) _) (by omega), Mk.cell_under d5 (((Below.refl w1.heap.size w1).drew.alloc (by first | (simp [hD0]; done) | (simp [hD0]; omega)) _).alloc (by first | (simp [hD0]; done) | (simp [hD0]; omega)) _) (by omega)⟩ (fun hHeld => ?_)
  clear hK K
  try simp only [Act.put, sA, sZ, sS]
  refine wpAnyH_ready (rs := [8]) (by kernel_rfl) (by simp) ?_
  refine AllReadyH.cons (o := ⟨some 30, .buildSlice 166 3 #[(0, .tmp 23), (1, .tmp 26), (2, .tmp 29)], 166, "inode.go:62", #[⟨1, .data⟩, ⟨4, .data⟩, ⟨7, .data⟩], none⟩) rfl (fun K hK => ?_) AllReadyH.nil
  rw [if_pos (by rfl)]
  go_simp
  refine hK.out _ _ ⟨Mk.cell_under d4 ((((Below.refl w1.heap.size w1).drew.alloc (by first | (simp [hD0]; done) | (simp [hD0]; omega)) _).alloc (by first | (simp [hD0]; done) | (simp [hD0]; omega)) _).alloc (by first | (simp [hD0]; done) | (simp [hD0]; omega)) _) (by omega), Mk.cell_under d5 ((((Below.refl w1.heap.size w1).drew.alloc (by first | (simp [hD0]; done) | (simp [hD0]; omega)) _).alloc (by first | (simp [hD0]; done) | (simp [hD0]; omega)) _).alloc (by first | (simp [hD0]; done) | (simp [hD0]; omega)) _) (by omega)⟩ (fun hHeld => ?_)
  clear hK K
  try simp only [Act.put, sA, sZ, sS]
  refine tk 9 ⟨some 31, .call { callee := .builtin Builtin.len, args := #[.tmp 30], argTypes := #[166] }, 3, "inode.go:62", #[⟨8, .data⟩], none⟩ ?_ ?_ hHeld ?_
  rotate_left
  ·(intro w hSw; (try dsimp only at hSw); go_simp; try (with_reducible rfl))
  simp only [Act.put, sA, sZ, sS]
  refine wpAnyH_done (by kernel_rfl) ?_ _
  go_wp2_with fail
  go_meet
  exact ⟨rfl, rfl, w1.heap.size + 1, w1.heap.size, w1.heap.size + 1 + 1, rfl, (show (((w1.alloc _).alloc _).alloc _).heap[_]? = _ from at_old (at_new (by simp))), (show (((w1.alloc _).alloc _).alloc _).heap[_]? = _ from at_old (at_old (at_new rfl))), (show (((w1.alloc _).alloc _).alloc _).heap[_]? = _ from at_new (by simp)), by omega, by omega, by omega, (((((Below.refl w1.heap.size w1).alloc (Nat.le_refl _) _).alloc (by first | (simp; done) | (simp; omega)) _).alloc (by first | (simp; done) | (simp; omega)) _).drew)⟩
 case rest =>
  obtain ⟨rfl, rfl, xa, xb, xe, rfl, hxa, hxb, hxe, hla, hlb, hle, hbx⟩ := hcut
  rename World => wx
  have hsx := hbx.size
  obtain ⟨hvW, hbW, hltF⟩ := HV.out
  have hvx := (hvW.later hb1).later hbx
  have hla9 := (Array.getElem?_eq_some_iff.1 hxa).1
  have hlb9 := (Array.getElem?_eq_some_iff.1 hxb).1
  have hle9 := (Array.getElem?_eq_some_iff.1 hxe).1
  have hdxx := (hbx.block _ (by omega)).trans hdx1
  have hI0 : SpO w wx v F N I l c xa xb xe val (.slice none 0 0) (.int .i64 0) wx := ⟨0, by omega, rfl, F, c, nrw_nil _ _ _ _, hvx, by omega, stp_grown (stp_grown (stp_grown (Pt.Stp.refl F w) hbW) hb1) hbx, fun j hj => ⟨rfl, fun hf => by have := hltF j hf; omega⟩, Nat.le_refl _⟩
  have hN := hvx.N1.2
  have HD : Hid (wx.heap[w.heap.size + 1]? = some (dinX m ln sz val) ∧ wx.heap[xe]? = some (.cells #[.slice (some ⟨w.heap.size + 1, 3, none⟩) 4 4, .slice (some ⟨xa, 0, none⟩) 1 1, .slice (some ⟨xb, 0, none⟩) 1 1] 49 (0, 0))) := ⟨hdxx, hxe⟩
  have HX : Hid (w.heap.size + 1 < wx.heap.size ∧ w.heap.size ≤ xa ∧ w.heap.size ≤ xb ∧ w.heap.size ≤ xe) := ⟨by omega, by omega, by omega, by omega⟩
  have hfl : ∀ k, k < 3 → ∃ fb fo, (fb = w.heap.size + 1 ∨ fb = xa ∨ fb = xb ∨ fb = xe) ∧ wx.cell? ⟨xe, k, none⟩ = some (.slice (some ⟨fb, fo, none⟩) (fcnt k) (fcnt k)) ∧ ∀ j, j < fcnt k → wx.cell? ⟨fb, fo + j, none⟩ = some (.int .i64 (val (fbase k + j) : Int)) := by
   intro k hk
   rcases (by omega : k = 0 ∨ k = 1 ∨ k = 2) with rfl | rfl | rfl
   ·refine ⟨w.heap.size + 1, 3, .inl rfl, cell_of_row _ _ 0 _ _ _ hxe, fun j hj => ?_⟩
    have hj : j < 4 := hj
    have := dino_of hdxx j (by omega)
    rw [show fbase 0 + j = j from Nat.zero_add j]
    exact this
   ·refine ⟨xa, 0, .inr (.inl rfl), cell_of_row _ _ 1 _ _ _ hxe, fun j hj => ?_⟩
    have hj : j < 1 := hj
    obtain rfl : j = 0 := by omega
    exact cell_of_row _ _ 0 _ _ _ hxa
   ·refine ⟨xb, 0, .inr (.inr (.inl rfl)), cell_of_row _ _ 2 _ _ _ hxe, fun j hj => ?_⟩
    have hj : j < 1 := hj
    obtain rfl : j = 0 := by omega
    exact cell_of_row _ _ 0 _ _ _ hxb
  clear hvx hvW hbW hltF hb1 hbx hdx1 hDi d4 d5 hxa hxb hxe hla hlb hle hdxx hrf hgr hdx c0 c1 c2 hW hs1 hsx
  go_wp2_with fail
  go_loopw [9, 32] (fun u iv wr => SpO w wx v F N I l c xa xb xe val u iv wr) (fun _ iv _ => 3 - (intOf iv).toNat)
  case atStart => exact hI0
  case round =>
   clear hI0
   obtain ⟨k, hk, rfl, hsp⟩ := hrel
   by_cases hk3 : k < 3
   ·have hkI : (k : Int) < 3 := by omega
    obtain ⟨fb, fo, hfb, hfe, hfc⟩ := hfl k hk3
    have hsp2 := hsp
    obtain ⟨F2, c2, hrow, hv2, hc2, hst2, hbl2, hsz2⟩ := hsp
    have hce := (cell_keq (hbl2 xe (.inr (.inr (.inr rfl)))).1).trans hfe
    have hn4 : fcnt k ≤ 4 := by unfold fcnt; split <;> omega
    obtain ⟨n, hn⟩ : ∃ n, fcnt k = n := ⟨_, rfl⟩
    rw [hn] at hce hfc hn4
    have hJ0 : SpI w wx v F N I l c xa xb xe val k u9 (.int .i64 0) wr := ⟨0, by omega, rfl, by simpa [prt] using hsp2⟩
    clear hsp2 hrow hv2 hc2 hst2 hbl2 hsz2
    go_wp2_with fail
    go_loopw [9, 39] (fun u iv wy => SpI w wx v F N I l c xa xb xe val k u iv wy) (fun _ iv _ => n - (intOf iv).toNat)
    case atStart => exact hJ0
    case round =>
     clear hJ0 hce hfe
     rename World => wy
     obtain ⟨j, hj, rfl, F2, c2, hrow, hv2, hc2, hst2, hbl2, hsz2⟩ := hrel
     have hcr : j * rdc k ≤ 260 ∧ rdc k ≤ 65 ∧ cbs k ≤ 66 ∧ fcnt k * rdc k + cbs k = cbs (k + 1) := by
      rcases (by omega : k = 0 ∨ k = 1 ∨ k = 2) with rfl | rfl | rfl
      ·exact ⟨by simp [rdc], by decide, by decide, by decide⟩
      ·have : j ≤ 1 := hj
       exact ⟨by simp [rdc]; omega, by decide, by decide, by decide⟩
      ·have : j ≤ 1 := hj
       exact ⟨by simp [rdc]; omega, by decide, by decide, by decide⟩
     rw [hn] at hj hcr
     by_cases hjn : j < n
     ·have hjI : (j : Int) < (n : Int) := by omega
      have hcell := (cell_keq (hbl2 fb hfb).1).trans (hfc j hjn)
      have hdep : Dep k (fbase k + j) := dep_f hk3 (by rw [hn]; exact hjn)
      have hrc := reach_ok hv2 hT hR hdep (by omega)
      have hL1 := accS_len val k (by omega)
      have hL2 := prt_len val (b := fbase k) (d := k) (by omega) j
      have hL3 := spn_len val (d := k) (by omega) (fbase k + j)
      have hL4 : j * 4161 ≤ 4 * 4161 := Nat.mul_le_mul_right _ (by omega)
      have hjk : (j + 1) * rdc k = j * rdc k + rdc k := by rw [Nat.add_mul, Nat.one_mul]
      obtain ⟨A, hA⟩ : ∃ A, accS val k ++ prt val (fbase k) k j = A := ⟨_, rfl⟩
      have hnl : (nlist A).length ≤ 50000 + 16644 := by rw [nlist_len, ← hA, List.length_append]; omega
      have hnew : accS val k ++ prt val (fbase k) k (j + 1) = A ++ spn val k (fbase k + j) := by rw [← hA, List.append_assoc]; rfl
      obtain ⟨L, hL⟩ : ∃ L, spn val k (fbase k + j) = L := ⟨_, rfl⟩
      rw [hL] at hrc hnew hL3
      rw [hA] at hrow
      have HN : Hid (accS val k ++ prt val (fbase k) k (j + 1) = A ++ L) := hnew
      obtain ⟨y, hy⟩ : ∃ y, val (fbase k + j) = y := ⟨_, rfl⟩
      rw [hy] at hcell hrc
      clear hnew hL hA hL1 hL2 hL4 hdep hy
      go_wp2_with fail
      refine Calls.mono hrc ?_
      rintro e wb ⟨q3, cp3, F3, c3, rfl, hii3, hnil3, hc3, hv3, hst3, hq3⟩
      have hrow3 := hrow.stp (stp_fx (stp_fx hst3))
      have hsb := hst3.fr.size
      have hbl3 : ∀ j, j = w.heap.size + 1 ∨ j = xa ∨ j = xb ∨ j = xe → wb.heap[j]? = wx.heap[j]? ∧ ¬ F3 j := fun i hi => by
       have hil : i < wx.heap.size := by have := HX.out.1; rcases hi with rfl | rfl | rfl | rfl <;> omega
       exact ⟨(hst3.fr.block i (by omega) (hbl2 i hi).2).trans (hbl2 i hi).1, fun hf => (hst3.new i hf).elim (hbl2 i hi).2 (fun h9 => by have h9 : wy.heap.size ≤ i := h9; omega)⟩
      have hst4 := stp_trans hst2 hst3
      have hsz0 := hst2.fr.size
      clear hrow hst3 hrc hst2 hv2 hbl2
      dsimp only
      cases L with
      | nil =>
       obtain rfl := hnil3 rfl
       go_wp2_with (first | (at_builtin; refine wpList_nrw_nil rfl _ _ rfl hrow3 rfl rfl ?_))
       go_roundw
       case rel =>
        unfold SpI SpL
        refine ⟨j + 1, by omega, by push_cast; rfl, F3, c3, ?_, hv3, by omega, hst4, hbl3, by omega⟩
        rw [HN.out, List.append_nil]
        exact hrow3
       case measure => simp [intOf]; omega
      | cons y L' =>
       have hL1 : 0 < (y :: L').length := by simp
       obtain ⟨m, hm⟩ : ∃ m, (y :: L').length = m := ⟨_, rfl⟩
       rw [hm] at hii3 hL1 hL3 ⊢
       go_wp2_with (first | (at_builtin; refine wpList_nrw rfl _ _ rfl hrow3 rfl rfl hii3 hL1 (by omega) (by omega) (fun k hk => hk.elim (hv3.lt k) (fun e => by have := HX.out; omega)) (by have := HX.out; omega) ?_; intro u5 w5 hrow5 hg5))
       have hs5 := hg5.size
       go_roundw
       case rel =>
        unfold SpI SpL
        refine ⟨j + 1, by omega, by push_cast; rfl, F3, c3, ?_, hv3.else hg5.size (fun j hj => hrow3.vol hg5 (hv3.lt j hj) (.inl (.inl hj))), by omega, stp_low hst4 (hrow3.low hg5 (by omega)), ?_, by omega⟩
        ·rw [HN.out, nlist_app]; exact hrow5
        ·intro i hi
         have h9 := hbl3 i hi
         have hil : i < wx.heap.size := by have := HX.out.1; rcases hi with rfl | rfl | rfl | rfl <;> omega
         refine ⟨(hg5.block i (by omega) (fun e => ?_)).trans h9.1, h9.2⟩
         rcases hi with rfl | rfl | rfl | rfl
         ·exact hrow3.ne (h9.1.trans HD.out.1) (by decide) e.symm
         ·exact (hrow3.off _ e.symm).1 (.inr rfl)
         ·exact (hrow3.off _ e.symm).2 rfl
         ·exact hrow3.ne (h9.1.trans HD.out.2) (by decide) e.symm
       case measure => simp [intOf]; omega
     ·obtain rfl : j = n := by omega
      go_wp2_with fail
      go_roundw
      case rel =>
       unfold SpO SpL
       refine ⟨k + 1, by omega, by push_cast; rfl, F2, c2, ?_, hv2, by omega, hst2, hbl2, hsz2⟩
       rw [accS, hn]; exact hrow
      case measure => simp [intOf]; omega
   ·obtain rfl : k = 3 := by omega
    obtain ⟨F2, c2, hrow, hv2, hc2, hst2, hbl2, hsz2⟩ := hsp
    have h3l := accS_len val 3 (by omega)
    rw [accS_span] at hrow h3l
    have hall : ∀ y, y ∈ span val → y < 100000 := fun y hy => by
     obtain ⟨i, hi, h0, rfl⟩ := (span_iff hT y).1 hy
     have := hR i hi h0; omega
    have hrow9 := hrow.row
    rw [nlist_len] at hrow9
    obtain ⟨p9, c9, rfl, hii9, _⟩ := Mk.row_ii hrow9 (by omega)
    go_wp2_with fail
    go_ret2
    unfold SpnR
    refine ⟨p9, c9, F2, c2, rfl, ⟨hii9.len, hii9.big, fun z hz => ?_, hii9.cells⟩, by omega, hc2, hv2, hst2, fun j hj => ?_⟩
    ·obtain ⟨y, hy, rfl⟩ := List.mem_map.1 hz
     have := hall y hy
     exact ⟨by omega, by omega⟩
    ·cases p9 with
     | none => cases hj
     | some a =>
      have e9 : a.block = j := Option.some.inj hj
      have h8 := hrow9.lt j (by rw [← e9]; rfl)
      exact ⟨h8.1, h8.2, fun hf => (hrow.off j (by rw [← e9]; rfl)).1 (.inl hf)⟩
end
end Go.Proofs.YthdlpeejmmobmaaGreat

namespace Go.Proofs.YthdlpeejmmobmaaGreat
open Go.RowKit Go.Maps
set_option linter.unusedVariables false
set_option maxRecDepth 100000
theorem place_ino {N G B Q : Nat} (hg : Geo G B Q N) {b : Nat} (hb : b < G * Q) (w : World) : Calls Tryz.prog 137 #[.int .i64 (Mk.Al.rI true), Mk.geomV G B Q, .int .i64 (b : Int)] w fun e w' => e = .returned (.tuple #[.int .i64 ((b / Q : Nat) : Int), .int .i64 ((b % Q : Nat) : Int)]) ∧ Below w.heap.size w w' := by
 have hof : Mk.Gm.Of (G : Int) B Q Q (b : Int) := ⟨hg.may, by omega, by rw [← Int.natCast_mul]; omega⟩
 have := Mk.Al.place_inodes hof w
 simpa using this
section
variable {w w' : World} {v : Nat} {F : Nat → Prop} {N : Nat} {I : Nat → List Int} {l c G B Q : Nat}
set_option maxHeartbeats 1000000 in
theorem arefusalInode_ok (h : Vol w v F N I l c) (hg : Geo G B Q N) {n : Nat} (hn : n < G * Q) (m : Nat) (hm : m ≤ n) : Calls Tryz.prog 244 #[.pointer (some ⟨v, 0, none⟩), Mk.geomV G B Q, .int .i64 (n : Int), .int .i64 (m : Int)] w fun e w' => e = .returned (.int .i64 0) ∧ Below w.heap.size w w' := by
 obtain ⟨W, hW⟩ : ∃ W, w.alloc (Mk.geomO G B Q) = W := ⟨_, rfl⟩
 have hb : Below w.heap.size w W := by rw [← hW]; exact Mk.grew_alloc _ _
 have hx : W.heap[w.heap.size]? = some (Mk.geomO G B Q) := by rw [← hW]; exact at_new rfl
 have c0 := (g3_of hx).c0
 have c1 := (g3_of hx).c1
 have c2 := (g3_of hx).c2
 have hr := refusal_ok2 (h.later hb) hg
 have hino := fun w => Mk.inodes_ok G B Q w
 rw [Mk.Gm.num_pos hg.may] at hino
 have e2 : (G : Int) * (Q : Int) = ((G * Q : Nat) : Int) := by push_cast; rfl
 rw [e2] at hino
 obtain ⟨K, hK⟩ : ∃ K, G * Q = K := ⟨_, rfl⟩
 rw [hK] at hino hn
 have hn1 : ¬ (n : Int) < (m : Int) := by omega
 have hn2 : ¬ (K : Int) ≤ (n : Int) := by omega
 clear hx hK e2
 go_enter Tryz.func244, Tryz.ntmps244
 go_wp2_with fail
 refine Mk.grew_at hr ?_
 intro w1 hb1
 have c0' := Mk.cell_kept c0 hb1
 have c1' := Mk.cell_kept c1 hb1
 have c2' := Mk.cell_kept c2 hb1
 dsimp only
 go_wp2_with fail
 refine Mk.grew_at (hino _) ?_
 intro w2 hb2
 dsimp only
 go_wp2_with fail
 go_ret
 exact ⟨rfl, hb.trans ((hb1.mono hb.size).trans (hb2.mono (by have := hb.size; have := hb1.size; omega)))⟩
open Mk.Al in
set_option maxHeartbeats 2000000 in
theorem freeInode_ok (h : Vol w v F N I l c) (hg : Geo G B Q N) {H : Nat → List Int} (hH : Hds I G B H) {b : Nat} (hb : b < G * Q) (hb3 : 3 ≤ b) (hc : c < 4611686018427387904) (hl1 : l + 1 ≤ 10000)
  (q : Option Addr) (m d : Nat) (zs : List Int) (hz : Pt.II w q m zs) (hqv : ∀ k, Pt.blkOf q = some k → ¬ F k) (hk : zs.all (Pt.kn l) = true) (hm : m ≤ 100000) :
  Calls Tryz.prog 162 #[.pointer (some ⟨v, 0, none⟩), Mk.geomV G B Q, .int .i64 (b : Int), .slice q m d] w fun e w' =>
   (Mk.Bit.on (rowOf true (H (b / Q))) (b % Q) = true → e = .returned (.tuple #[.int .i64 ((l + 1 : Nat) : Int), .int .i64 0]) ∧ ∃ F', Vol w' v F' N (putH I B (b / Q) (putY true (H (b / Q)) (b % Q) false)) (l + 1) (c + 1) ∧ Pt.Stp F F' w w') ∧
   (Mk.Bit.on (rowOf true (H (b / Q))) (b % Q) = false → e = .returned (.tuple #[.int .i64 0, .int .i64 110]) ∧ ∃ F', Vol w' v F' N I l (c + 1) ∧ Pt.Stp F F' w w') := by
 have hfit := hg.fit
 have hn : b / Q < G := Nat.div_lt_of_lt_mul (by rw [Nat.mul_comm]; exact hb)
 obtain ⟨W, hW⟩ : ∃ W, w.alloc (Mk.geomO G B Q) = W := ⟨_, rfl⟩
 have hbw : Below w.heap.size w W := by rw [← hW]; exact Mk.grew_alloc _ _
 have hx : W.heap[w.heap.size]? = some (Mk.geomO G B Q) := by rw [← hW]; exact at_new rfl
 have c0 := (g3_of hx).c0
 have c1 := (g3_of hx).c1
 have c2 := (g3_of hx).c2
 have hr := arefusalInode_ok (h.later hbw) hg hb 3 hb3
 have hmod : b % Q < Q := Nat.mod_lt _ (by omega)
 have hl := hH.len _ hn
 have htb := fun (w1 : World) (hb1 : Below W.heap.size W w1) => takeBack_ok ((h.later hbw).later hb1) hg hn (hH.at_ _ hn) hl (hH.byt _ hn) hc hl1 true (b % Q) (by show b % Q / 8 < 8; omega) (b : Int) (place_ino hg hb) q m d zs ((hz.kept hbw).kept hb1) hqv hk hm
 change ∀ w1, _ → Calls _ _ #[_, _, .int .i64 1, _, _] _ _ at htb
 have HB : Hid (Below w.heap.size w W) := hbw
 clear hx hbw h hg hH hl hn hmod hb3 hz hqv hk
 generalize putH I B (b / Q) (putY true (H (b / Q)) (b % Q) false) = nw at *
 generalize Mk.Bit.on (rowOf true (H (b / Q))) (b % Q) = o at *
 go_enter Tryz.func162, Tryz.ntmps162
 go_wp2_with fail
 refine Mk.grew_at hr ?_
 intro w1 hb1
 have c0 := Mk.cell_kept c0 hb1
 have c1 := Mk.cell_kept c1 hb1
 have c2 := Mk.cell_kept c2 hb1
 have ht1 := htb _ hb1
 have hbb : Below w.heap.size w w1 := HB.out.trans (hb1.mono HB.out.size)
 have HBB : Hid (Below w.heap.size w w1) := hbb
 clear htb hr hbb hb1
 dsimp only
 go_wp2_with fail
 refine Calls.mono ht1 ?_
 rintro e w2 ⟨h1, h2⟩
 cases o
 ·obtain ⟨rfl, F', hv, hst⟩ := h2 rfl
  clear h1 h2 ht1
  dsimp only
  go_wp2_with fail
  go_ret2
  exact ⟨rfl, F', hv, stp_after HBB.out hst⟩
 ·obtain ⟨rfl, F', hv, hst⟩ := h1 rfl
  clear h1 h2 ht1
  dsimp only
  go_wp2_with fail
  go_ret2
  exact ⟨rfl, F', hv, stp_after HBB.out hst⟩
end
end Go.Proofs.YthdlpeejmmobmaaGreat
