/- J17 J18 J19 CR -/
import Derived.Test.YthdlpeejmmobmaaGreatYG43
import Derived.Test.YthdlpeejmmobmaaGreatYG33
import Derived.Test.YthdlpeejmmobmaaGreatYG01

namespace Go.Proofs.YthdlpeejmmobmaaGreat
open Go.RowKit Go.Maps
open Mk.Al (putY rowOf)
set_option linter.unusedVariables false
set_option maxRecDepth 100000
def InoR (w4 w5 : World) (v : Nat) (F3 : Nat → Prop) (N : Nat) (I1 : Nat → List Int) (H : Nat → List Int) (l c g b i n : Nat) (dir : Bool) (a1 a2 a3 : Value) : Prop :=
 ∃ F4 c4, c4 ≤ c + 8 ∧ Pt.Stp F3 F4 w4 w5 ∧ ((∃ n' i', ido H dir g b i n = some (n', i') ∧ a1 = .int .i64 ((n' * i + i' : Nat) : Int) ∧ a2 = .int .i64 ((l + 1 : Nat) : Int) ∧ a3 = .int .i64 0 ∧ Vol w5 v F4 N (putH I1 b n' (putY true (H n') i' true)) (l + 1) c4) ∨
  (ido H dir g b i n = none ∧ a1 = .int .i64 0 ∧ a2 = .int .i64 0 ∧ a3 = .int .i64 5 ∧ Vol w5 v F4 N I1 l c4))
theorem inoR_of {w4 w5 : World} {v : Nat} {F3 : Nat → Prop} {N : Nat} {I1 : Nat → List Int} {H : Nat → List Int} {l c g b i n : Nat} {dir : Bool} {e : Ending}
  (h : (∀ n' i', ido H dir g b i n = some (n', i') → e = .returned (.tuple #[.int .i64 ((n' * i + i' : Nat) : Int), .int .i64 ((l + 1 : Nat) : Int), .int .i64 0]) ∧ ∃ F' c', c' ≤ c + 8 ∧ Vol w5 v F' N (putH I1 b n' (putY true (H n') i' true)) (l + 1) c' ∧ Pt.Stp F3 F' w4 w5) ∧
   (ido H dir g b i n = none → e = .returned (.tuple #[.int .i64 0, .int .i64 0, .int .i64 5]) ∧ ∃ F' c', c' ≤ c + 8 ∧ Vol w5 v F' N I1 l c' ∧ Pt.Stp F3 F' w4 w5)) :
  ∃ a1 a2 a3, e = .returned (.tuple #[a1, a2, a3]) ∧ InoR w4 w5 v F3 N I1 H l c g b i n dir a1 a2 a3 := by
 cases ho : ido H dir g b i n with
 | none =>
  obtain ⟨rfl, F', c', hc, hv, hs⟩ := h.2 ho
  exact ⟨_, _, _, rfl, F', c', hc, hs, .inr ⟨ho, rfl, rfl, rfl, hv⟩⟩
 | some x =>
  obtain ⟨n', i'⟩ := x
  obtain ⟨rfl, F', c', hc, hv, hs⟩ := h.1 n' i' ho
  exact ⟨_, _, _, rfl, F', c', hc, hs, .inl ⟨n', i', ho, rfl, rfl, rfl, hv⟩⟩
theorem InoR.stp {w4 w5 : World} {v : Nat} {F3 : Nat → Prop} {N : Nat} {I1 : Nat → List Int} {H : Nat → List Int} {l c g b i n : Nat} {dir : Bool} {a1 a2 a3 : Value} (h : InoR w4 w5 v F3 N I1 H l c g b i n dir a1 a2 a3) : Pt.Frame F3 w4 w5 := by
 obtain ⟨_, _, _, h, _⟩ := h
 exact h.fr
theorem InoR.undrew {w4 w5 : World} {v : Nat} {F3 : Nat → Prop} {N : Nat} {I1 : Nat → List Int} {H : Nat → List Int} {l c g b i n : Nat} {dir : Bool} {a1 a2 a3 : Value} (h : InoR w4.drew w5 v F3 N I1 H l c g b i n dir a1 a2 a3) : InoR w4 w5 v F3 N I1 H l c g b i n dir a1 a2 a3 := by
 obtain ⟨F4, c4, hc, hst, hr⟩ := h
 exact ⟨F4, c4, hc, stp_after (Below.refl _ _).drew hst, hr⟩
def PlaR (w : World) (v : Nat) (F : Nat → Prop) (N : Nat) (I : Nat → List Int) (H : Nat → List Int) (l c G B Q : Nat) (e : Ending) (w' : World) : Prop :=
 ∃ F' c', c' ≤ c + 8 ∧ Pt.Stp F F' w w' ∧ ((ido H false G B Q 0 = none ∧ e = .returned (.tuple #[.int .i64 0, .bool true]) ∧ Vol w' v F' N I l c') ∨
  (∃ n i, ido H false G B Q 0 = some (n, i) ∧ e = .returned (.tuple #[.int .i64 ((n * Q + i : Nat) : Int), .bool true]) ∧ Vol w' v F' N (updI (putH I B n (putY true (H n) i true)) (iP B Q (n * Q + i)) (iA Q (n * Q + i)) (Mk.dinB 1 1 0 0 0 0 0 0 0)) (l + 2) c'))
section
variable {w w' : World} {v : Nat} {F : Nat → Prop} {N : Nat} {I : Nat → List Int} {l c G B Q : Nat}
set_option maxHeartbeats 8000000 in
theorem place_ok (h : Vol w v F N I l c) (hg : Geo G B Q N) {H : Nat → List Int} (hH : Hds I G B H) {p : Nat} {pd px py : Value} (hP : w.heap[p]? = some (.cells #[pd, .pointer (some ⟨v, 0, none⟩), px, py] 33 (0, 0))) (hpF : ¬ F p) (hc : c + 20 < 4611686018427387904) (hl : l + 2 ≤ 10000) :
  Calls Tryz.prog 28 #[.pointer (some ⟨p, 0, none⟩), Mk.geomV G B Q] w (PlaR w v F N I H l c G B Q) := by
 have hfit := hg.fit
 obtain ⟨W, hW⟩ : ∃ W, w.alloc (Mk.geomO G B Q) = W := ⟨_, rfl⟩
 have hb : Below w.heap.size w W := by rw [← hW]; exact Mk.grew_alloc _ _
 have hx : W.heap[w.heap.size]? = some (Mk.geomO G B Q) := by rw [← hW]; exact at_new rfl
 have hsz : W.heap.size = w.heap.size + 1 := by rw [← hW]; simp
 have hpl := (Array.getElem?_eq_some_iff.1 hP).1
 have hPW := (hb.block p hpl).trans hP
 have c0 := (g3_of hx).c0
 have c1 := (g3_of hx).c1
 have c2 := (g3_of hx).c2
 have p1 : W.cell? ⟨p, 1, none⟩ = some (.pointer (some ⟨v, 0, none⟩)) := cell_of_row _ _ 1 _ _ _ hPW
 have hlt := h.lt
 have hin : ∀ (w4 : World), Below W.heap.size W w4 → Calls Tryz.prog 25 #[.pointer (some ⟨v, 0, none⟩), Mk.geomV G B Q, .int .i64 0, .bool false] w4 _ := fun (w4 : World) (hb4 : Below W.heap.size W w4) => inode_ok ((h.later hb).later hb4) hg hH (near := 0) (by omega) false (by omega) (by omega)
 have HB : Hid (Below w.heap.size w W ∧ (∀ k, F k → k < w.heap.size)) := ⟨hb, hlt⟩
 have hgF : ¬ F w.heap.size := fun hf => by have := hlt _ hf; omega
 clear h hb hlt
 go_enter Tryz.func28, Tryz.ntmps28
 go_wp2_with fail
 go_cut [6, 7, 8] (fun a1 a2 a3 wx => InoR W wx v F N I H l c G B Q 0 false a1 a2 a3)
 case first =>
  refine wp_region_held_drew (S := (fun w' => w'.cell? ⟨p, 1, none⟩ = some (.pointer (some ⟨v, 0, none⟩)) ∧ w'.cell? ⟨w.heap.size, 0, none⟩ = some (.int .i64 (G : Int)) ∧ w'.cell? ⟨w.heap.size, 1, none⟩ = some (.int .i64 (B : Int)) ∧ w'.cell? ⟨w.heap.size, 2, none⟩ = some (.int .i64 (Q : Int)))) (by kernel_rfl) ⟨p1, c0, c1, c2⟩ (fun hHeld => ?_)
  refine tk 0 ⟨some 10, .move (.tmp 0), 24, "law.go:86", #[], none⟩ ?_ ?_ hHeld ?_
  rotate_left
  ·(intro w hSw; (try dsimp only at hSw); go_simp; try (with_reducible rfl))
  simp only [Act.put, sA, sZ, sS]
  refine tk 1 ⟨some 11, .nilCheck (.tmp 10), 0, "law.go:86", #[⟨0, .data⟩], none⟩ ?_ ?_ hHeld ?_
  rotate_left
  ·(intro w hSw; (try dsimp only at hSw); go_simp; try (with_reducible rfl))
  simp only [Act.put, sA, sZ, sS]
  refine tk 2 ⟨some 12, .fieldAddr 33 (.tmp 11) 1, 0, "law.go:86", #[⟨1, .data⟩], none⟩ ?_ ?_ hHeld ?_
  rotate_left
  ·(intro w hSw; (try dsimp only at hSw); go_simp; try (with_reducible rfl))
  simp only [Act.put, sA, sZ, sS]
  refine tk 3 ⟨some 13, .load 29 (.tmp 12), 29, "law.go:86", #[⟨2, .data⟩], none⟩ ?_ ?_ hHeld ?_
  rotate_left
  ·(intro w hSw; (try dsimp only at hSw); go_simp; try (with_reducible rfl))
  simp only [Act.put, sA, sZ, sS]
  refine tk 4 ⟨some 14, .load 23 (.tmp 3), 23, "law.go:86", #[], none⟩ ?_ ?_ hHeld ?_
  rotate_left
  ·(intro w hSw; (try dsimp only at hSw); go_simp; try (with_reducible rfl))
  simp only [Act.put, sA, sZ, sS]
  refine wpAnyH_ready (rs := [5]) (by kernel_rfl) (by simp) ?_
  refine AllReadyH.cons (o := ⟨some 15, .call { callee := .value (.func 25), args := #[.tmp 13, .tmp 14, .const (.int .i64 0), .const (.bool false)], argTypes := #[29, 23, 3, 4] }, 52, "law.go:86", #[⟨3, .data⟩, ⟨4, .data⟩], none⟩) rfl (fun K hK => ?_) AllReadyH.nil
  rw [if_pos (by rfl)]
  go_simp
  refine Calls.mono (hin _ (Below.refl _ _).drew) ?_
  intro e w5 he
  obtain ⟨a1, a2, a3, rfl, hI4⟩ := inoR_of he
  dsimp only
  refine hK.out _ _ ⟨(cell_keq (hI4.stp.block _ (by show _ < W.heap.size; omega) hpF)).trans p1, (cell_keq (hI4.stp.block _ (by show _ < W.heap.size; omega) hgF)).trans c0, (cell_keq (hI4.stp.block _ (by show _ < W.heap.size; omega) hgF)).trans c1, (cell_keq (hI4.stp.block _ (by show _ < W.heap.size; omega) hgF)).trans c2⟩ (fun hHeld => ?_)
  clear hK K
  try simp only [Act.put, sA, sZ, sS]
  refine tk 6 ⟨some 9, .move (.tmp 15), 52, "law.go:86", #[⟨5, .data⟩], none⟩ ?_ ?_ hHeld ?_
  rotate_left
  ·(intro w hSw; (try dsimp only at hSw); go_simp; try (with_reducible rfl))
  simp only [Act.put, sA, sZ, sS]
  refine tk 7 ⟨some 16, .extract (.tmp 9) 0, 3, "law.go:86", #[⟨6, .data⟩], none⟩ ?_ ?_ hHeld ?_
  rotate_left
  ·(intro w hSw; (try dsimp only at hSw); go_simp; try (with_reducible rfl))
  simp only [Act.put, sA, sZ, sS]
  refine tk 8 ⟨some 17, .extract (.tmp 9) 1, 3, "law.go:86", #[⟨6, .data⟩, ⟨10, .gcOnly .lateStores⟩], none⟩ ?_ ?_ hHeld ?_
  rotate_left
  ·(intro w hSw; (try dsimp only at hSw); go_simp; try (with_reducible rfl))
  simp only [Act.put, sA, sZ, sS]
  refine tk 9 ⟨some 18, .extract (.tmp 9) 2, 36, "law.go:86", #[⟨6, .data⟩, ⟨11, .gcOnly .lateStores⟩], none⟩ ?_ ?_ hHeld ?_
  rotate_left
  ·(intro w hSw; (try dsimp only at hSw); go_simp; try (with_reducible rfl))
  simp only [Act.put, sA, sZ, sS]
  refine tk 10 ⟨some 6, .assign (.tmp 16), 3, "law.go:86", #[⟨7, .data⟩, ⟨5, .chain⟩, ⟨0, .phase⟩, ⟨1, .phase⟩, ⟨2, .phase⟩, ⟨3, .phase⟩, ⟨4, .phase⟩, ⟨5, .phase⟩, ⟨6, .phase⟩, ⟨7, .phase⟩, { on := 8, ground := Ground.textOnly Departure.lateStores }, { on := 9, ground := Ground.textOnly Departure.lateStores }], none⟩ ?_ ?_ hHeld ?_
  rotate_left
  ·(intro w hSw; (try dsimp only at hSw); go_simp; try (with_reducible rfl))
  simp only [Act.put, sA, sZ, sS]
  refine tk 11 ⟨some 7, .assign (.tmp 17), 3, "law.go:86", #[⟨8, .data⟩, ⟨10, .chain⟩, ⟨0, .phase⟩, ⟨1, .phase⟩, ⟨2, .phase⟩, ⟨3, .phase⟩, ⟨4, .phase⟩, ⟨5, .phase⟩, ⟨6, .phase⟩, ⟨7, .phase⟩, ⟨8, .phase⟩, { on := 9, ground := Ground.textOnly Departure.lateStores }, ⟨10, .phase⟩], none⟩ ?_ ?_ hHeld ?_
  rotate_left
  ·(intro w hSw; (try dsimp only at hSw); go_simp; try (with_reducible rfl))
  simp only [Act.put, sA, sZ, sS]
  refine tk 12 ⟨some 8, .assign (.tmp 18), 36, "law.go:86", #[⟨9, .data⟩, ⟨11, .chain⟩, ⟨0, .phase⟩, ⟨1, .phase⟩, ⟨2, .phase⟩, ⟨3, .phase⟩, ⟨4, .phase⟩, ⟨5, .phase⟩, ⟨6, .phase⟩, ⟨7, .phase⟩, ⟨8, .phase⟩, ⟨9, .phase⟩, ⟨10, .phase⟩, ⟨11, .phase⟩], none⟩ ?_ ?_ hHeld ?_
  rotate_left
  ·(intro w hSw; (try dsimp only at hSw); go_simp; try (with_reducible rfl))
  simp only [Act.put, sA, sZ, sS]
  refine wpAnyH_done (by kernel_rfl) ?_ _
  go_wp2_with fail
  go_meet
  exact hI4.undrew
 case rest =>
  obtain ⟨F4, c4, hc4, hst4, ⟨n, i, ho, rfl, rfl, rfl, hv4⟩ | ⟨ho, rfl, rfl, rfl, hv4⟩⟩ := hcut
  ·rename World => wx
   have hxx : wx.heap[w.heap.size]? = some (Mk.geomO G B Q) := (hst4.fr.block _ (by omega) hgF).trans hx
   have hpx := (hst4.fr.block p (by omega) hpF).trans hPW
   have d0 := (g3_of hxx).c0
   have d1 := (g3_of hxx).c1
   have d2 := (g3_of hxx).c2
   have dp : wx.cell? ⟨p, 1, none⟩ = some (.pointer (some ⟨v, 0, none⟩)) := cell_of_row _ _ 1 _ _ _ hpx
   obtain ⟨hnG, hfr⟩ := ido_some (by omega) ho
   have hiQ : i < Q := (frs_some hg.may hfr).2.1
   obtain ⟨ino, hino⟩ : ∃ ino, n * Q + i = ino := ⟨_, rfl⟩
   have hiN : ino < G * Q := by
    have : (n + 1) * Q ≤ G * Q := Nat.mul_le_mul_right _ hnG
    rw [Nat.add_mul, Nat.one_mul] at this
    omega
   rw [hino]
   obtain ⟨la, hla⟩ : ∃ la, l + 1 = la := ⟨_, rfl⟩
   rw [hla] at hv4 ⊢
   obtain ⟨W6, hW6⟩ : ∃ W6, (wx.alloc (Obj.cells #[.int .i64 (la : Int)] 3)).drew = W6 := ⟨_, rfl⟩
   have hb6 : Below wx.heap.size wx W6 := by rw [← hW6]; exact (Mk.grew_alloc _ _).drew
   have hn6 : W6.heap[wx.heap.size]? = some (.cells #[.int .i64 (la : Int)] 3 (0, 0)) := by rw [← hW6]; exact at_new (w := wx) rfl
   have hxl := hv4.lt v hv4.mem
   have hch : Calls Tryz.prog 32 #[.pointer (some ⟨v, 0, none⟩), Mk.geomV G B Q, .int .i64 (ino : Int), Mk.dinV 1 1 0 0 0 0 0 0 0, .slice (some ⟨wx.heap.size, 0, none⟩) 1 1] W6 fun e w' => e = .returned (.tuple #[.int .i64 ((la + 1 : Nat) : Int), .int .i64 0]) ∧ ∃ F', Vol w' v F' N (updI (putH I B n (putY true (H n) i true)) (iP B Q ino) (iA Q ino) (Mk.dinB 1 1 0 0 0 0 0 0 0)) (la + 1) c4 ∧ Pt.Stp F4 F' W6 w' :=
    iput_ok (hv4.later hb6) hg hiN (by omega) 1 1 0 0 0 0 0 0 0 (by
     refine .inr (.inl ⟨rfl, ⟨by omega, by omega⟩, ⟨by omega, by omega⟩, ?_, ?_⟩)
     ·intro z hz
      simp at hz
      omega
     ·intro z hz
      simp at hz
      omega) (some ⟨wx.heap.size, 0, none⟩) 1 1 [(la : Int)] (one_ii hn6 ⟨by omega, by omega⟩) (fun k hk e => by
     have h9 : wx.heap.size = k := Option.some.inj hk
     omega) (by simp [Pt.kn]; omega) (by omega)
   have g0 := Mk.cell_kept d0 hb6
   have g1 := Mk.cell_kept d1 hb6
   have g2 := Mk.cell_kept d2 hb6
   have gp := Mk.cell_kept dp hb6
   have hs6 := hb6.size
   have hst4n := hst4.new
   have hsx := hst4.fr.size
   have hg4 : ¬ F4 w.heap.size ∧ ¬ F4 p := ⟨fun hf => (hst4n _ hf).elim hgF (fun h9 => by have h9 : W.heap.size ≤ w.heap.size := h9; omega), fun hf => (hst4n _ hf).elim hpF (fun h9 => by have h9 : W.heap.size ≤ p := h9; omega)⟩
   have HV : Hid (Pt.Stp F F4 W wx ∧ Below wx.heap.size wx W6) := ⟨hst4, hb6⟩
   clear hv4 hst4 hb6 hn6
   go_upto_region 4 with fail
   go_cut [8] (fun v8 wy => v8 = .int .i64 0 ∧ ∃ F5, Vol wy v F5 N (updI (putH I B n (putY true (H n) i true)) (iP B Q ino) (iA Q ino) (Mk.dinB 1 1 0 0 0 0 0 0 0)) (la + 1) c4 ∧ Pt.Stp F4 F5 W6 wy)
   case first =>
    refine wp_region_held_drew (S := (fun w' => w'.cell? ⟨p, 1, none⟩ = some (.pointer (some ⟨v, 0, none⟩)) ∧ w'.cell? ⟨w.heap.size, 0, none⟩ = some (.int .i64 (G : Int)) ∧ w'.cell? ⟨w.heap.size, 1, none⟩ = some (.int .i64 (B : Int)) ∧ w'.cell? ⟨w.heap.size, 2, none⟩ = some (.int .i64 (Q : Int)))) (by kernel_rfl) ⟨dp, d0, d1, d2⟩ (fun hHeld => ?_)
    refine tk 0 ⟨some 24, .move (.tmp 0), 24, "law.go:90", #[], none⟩ ?_ ?_ hHeld ?_
    rotate_left
    ·(intro w hSw; (try dsimp only at hSw); go_simp; try (with_reducible rfl))
    simp only [Act.put, sA, sZ, sS]
    refine tk 1 ⟨some 25, .nilCheck (.tmp 24), 0, "law.go:90", #[⟨0, .data⟩], none⟩ ?_ ?_ hHeld ?_
    rotate_left
    ·(intro w hSw; (try dsimp only at hSw); go_simp; try (with_reducible rfl))
    simp only [Act.put, sA, sZ, sS]
    refine tk 2 ⟨some 26, .fieldAddr 33 (.tmp 25) 1, 0, "law.go:90", #[⟨1, .data⟩], none⟩ ?_ ?_ hHeld ?_
    rotate_left
    ·(intro w hSw; (try dsimp only at hSw); go_simp; try (with_reducible rfl))
    simp only [Act.put, sA, sZ, sS]
    refine tk 3 ⟨some 27, .load 29 (.tmp 26), 29, "law.go:90", #[⟨2, .data⟩], none⟩ ?_ ?_ hHeld ?_
    rotate_left
    ·(intro w hSw; (try dsimp only at hSw); go_simp; try (with_reducible rfl))
    simp only [Act.put, sA, sZ, sS]
    refine tk 4 ⟨some 28, .load 23 (.tmp 3), 23, "law.go:90", #[], none⟩ ?_ ?_ hHeld ?_
    rotate_left
    ·(intro w hSw; (try dsimp only at hSw); go_simp; try (with_reducible rfl))
    simp only [Act.put, sA, sZ, sS]
    refine tk 5 ⟨some 29, .move (.tmp 6), 3, "law.go:90", #[], none⟩ ?_ ?_ hHeld ?_
    rotate_left
    ·(intro w hSw; (try dsimp only at hSw); go_simp; try (with_reducible rfl))
    simp only [Act.put, sA, sZ, sS]
    refine tk 6 ⟨some 30, .build 75 #[(0, .const (.int .i64 1)), (1, .const (.int .i64 1))], 75, "law.go:90", #[], none⟩ ?_ ?_ hHeld ?_
    rotate_left
    ·(intro w hSw; (try dsimp only at hSw); go_simp; try (with_reducible rfl))
    simp only [Act.put, sA, sZ, sS]
    refine tk 7 ⟨some 31, .move (.tmp 7), 3, "law.go:90", #[], none⟩ ?_ ?_ hHeld ?_
    rotate_left
    ·(intro w hSw; (try dsimp only at hSw); go_simp; try (with_reducible rfl))
    simp only [Act.put, sA, sZ, sS]
    refine wpAnyH_ready (rs := [8]) (by kernel_rfl) (by simp) ?_
    refine AllReadyH.cons (o := ⟨some 32, .buildSlice 49 1 #[(0, .tmp 31)], 49, "law.go:90", #[⟨7, .data⟩], none⟩) rfl (fun K hK => ?_) AllReadyH.nil
    rw [if_pos (by rfl)]
    go_simp
    refine hK.out _ _ ⟨gp, g0, g1, g2⟩ (fun hHeld => ?_)
    clear hK K
    try simp only [Act.put, sA, sZ, sS]
    refine wpAnyH_ready (rs := [9]) (by kernel_rfl) (by simp) ?_
    refine AllReadyH.cons (o := ⟨some 33, .call { callee := .value (.func 32), args := #[.tmp 27, .tmp 28, .tmp 29, .tmp 30, .tmp 32], argTypes := #[29, 23, 3, 75, 49] }, 40, "law.go:90", #[⟨3, .data⟩, ⟨4, .data⟩, ⟨5, .data⟩, ⟨6, .data⟩, ⟨8, .data⟩], none⟩) rfl (fun K hK => ?_) AllReadyH.nil
    rw [if_pos (by rfl)]
    go_simp
    refine Calls.mono hch ?_
    rintro e w5 ⟨rfl, F5, hv5, hst5⟩
    dsimp only
    refine hK.out _ _ ⟨(cell_keq (hst5.fr.block _ (by omega) hg4.2)).trans gp, (cell_keq (hst5.fr.block _ (by omega) hg4.1)).trans g0, (cell_keq (hst5.fr.block _ (by omega) hg4.1)).trans g1, (cell_keq (hst5.fr.block _ (by omega) hg4.1)).trans g2⟩ (fun hHeld => ?_)
    clear hK K
    try simp only [Act.put, sA, sZ, sS]
    refine tk 10 ⟨some 23, .move (.tmp 33), 40, "law.go:90", #[⟨9, .data⟩], none⟩ ?_ ?_ hHeld ?_
    rotate_left
    ·(intro w hSw; (try dsimp only at hSw); go_simp; try (with_reducible rfl))
    simp only [Act.put, sA, sZ, sS]
    refine tk 11 ⟨some 34, .extract (.tmp 23) 0, 3, "law.go:90", #[⟨10, .data⟩], none⟩ ?_ ?_ hHeld ?_
    rotate_left
    ·(intro w hSw; (try dsimp only at hSw); go_simp; try (with_reducible rfl))
    simp only [Act.put, sA, sZ, sS]
    refine tk 12 ⟨some 35, .extract (.tmp 23) 1, 36, "law.go:90", #[⟨10, .data⟩], none⟩ ?_ ?_ hHeld ?_
    rotate_left
    ·(intro w hSw; (try dsimp only at hSw); go_simp; try (with_reducible rfl))
    simp only [Act.put, sA, sZ, sS]
    refine tk 13 ⟨some 8, .assign (.tmp 35), 36, "law.go:90", #[⟨12, .data⟩, ⟨9, .chain⟩, ⟨0, .phase⟩, ⟨1, .phase⟩, ⟨2, .phase⟩, ⟨3, .phase⟩, ⟨4, .phase⟩, ⟨5, .phase⟩, ⟨6, .phase⟩, ⟨7, .phase⟩, ⟨8, .phase⟩, ⟨9, .phase⟩, ⟨10, .phase⟩, ⟨11, .phase⟩, ⟨12, .phase⟩], none⟩ ?_ ?_ hHeld ?_
    rotate_left
    ·(intro w hSw; (try dsimp only at hSw); go_simp; try (with_reducible rfl))
    simp only [Act.put, sA, sZ, sS]
    refine wpAnyH_done (by kernel_rfl) ?_ _
    go_wp2_with fail
    go_meet
    exact ⟨rfl, F5, hv5, hst5⟩
   case rest =>
    obtain ⟨rfl, F5, hv5, hst5⟩ := hcut
    rename World => wy
    go_wp2_with fail
    go_ret2
    unfold PlaR
    refine ⟨F5, c4, hc4, stp_after HB.out.1 (stp_trans (stp_grown HV.out.1 HV.out.2) hst5), .inr ⟨n, i, ho, ?_, ?_⟩⟩
    ·rw [hino]; rfl
    ·rw [hino, show l + 2 = la + 1 by omega]; exact hv5
  ·rename World => wx
   go_wp2_with fail
   go_ret2
   unfold PlaR
   exact ⟨F4, c4, hc4, stp_after HB.out.1 hst4, .inl ⟨ho, rfl, hv4⟩⟩
end
end Go.Proofs.YthdlpeejmmobmaaGreat

namespace Go.Proofs.YthdlpeejmmobmaaGreat
open Go.RowKit Go.Maps
open Mk.Al (putY rowOf fN eN lo zc)
set_option linter.unusedVariables false
set_option maxRecDepth 100000
theorem inw_new {I : Nat → List Int} {G B Q N : Nat} {H : Nat → List Int} (hH : Hds I G B H) : Inw I G B Q N H H (fun _ => 0) :=
 ⟨hH, ⟨fun j _ h => absurd rfl h, fun j _ _ p _ => rfl, fun i j _ _ h => absurd rfl h⟩, fun i _ h => absurd rfl h, fun b _ => ⟨fun h => .inl h, fun h => h.elim id (fun ⟨i, _, h0, _⟩ => absurd rfl h0)⟩, fun n _ => rfl⟩
def Hpl (Hn : Nat → List Int) (n i : Nat) : Nat → List Int := updH Hn n (putY true (Hn n) i true)
theorem hpl_three {G B Q N n i : Nat} (hg : Geo G B Q N) (hf : frs (Mk.hdY Q) true B Q n = some i) : 3 ≤ n * Q + i := by
 have hfit := hg.fit
 obtain ⟨h1, h2, h3⟩ := frs_some hg.may hf
 by_cases e : n = 0
 ·subst e
  rw [row_hdY] at h3
  have e : Mk.hdI 0 = [7, 0, 0, 0, 0, 0, 0, 0] := Mk.fb_seven
  rw [e] at h3
  have h2 : i < Q := h2
  have := on_first ⟨i, by omega⟩
  rw [h3] at this
  simp at this
  omega
 ·have : Q ≤ n * Q := Nat.le_mul_of_pos_left Q (by omega)
  omega
end Go.Proofs.YthdlpeejmmobmaaGreat

namespace Go.Proofs.YthdlpeejmmobmaaGreat
open Go.RowKit Go.Maps
open Mk.Al (putY rowOf)
set_option linter.unusedVariables false
set_option maxRecDepth 100000
def GroX (w w' : World) (v : Nat) (F : Nat → Prop) (N : Nat) (I : Nat → List Int) (l c G B Q : Nat) (H0 : Nat → List Int) (val : Nat → Nat) (n : Nat) (bb m ln sz : Int) (val' : Nat → Nat) (u : Value) (er : Int) : Prop :=
 ∃ (F' : Nat → Prop) (I' H' : Nat → List Int) (l' c' : Nat), Vol w' v F' N I' l' c' ∧ l' ≤ l + 9 ∧ c' ≤ c + 30 ∧ Pt.Stp F F' w w' ∧ ((er = 5 ∧ I' = I ∧ l' = l) ∨
  (er = 0 ∧ m = 1 ∧ ln = 1 ∧ sz = 0 ∧ Inw I' G B Q N H' H0 val' ∧ (∀ k, k % B ≠ 1 → k % B < 2 + Q / 4 → I' k = I k) ∧ bb = (val' (slotOf n) : Int) ∧ val' (slotOf n) ≠ 0 ∧ (∀ i, i < 4230 → val i ≠ 0 → val' i = val i) ∧ (val (slotOf n) ≠ 0 → val' = val) ∧
   ∃ (q : Option Addr) (cp : Nat) (zs : List Int), u = .slice q zs.length cp ∧ Pt.II w' q zs.length zs ∧ (∀ k, Pt.blkOf q = some k → w.heap.size ≤ k ∧ ¬ F' k) ∧ zs.all (Pt.kn l') = true ∧ zs.length ≤ 6))
theorem groX_of {w w' : World} {v : Nat} {F : Nat → Prop} {N : Nat} {I : Nat → List Int} {l c G B Q : Nat} {H H0 : Nat → List Int} {val : Nat → Nat} {n : Nat} {e : Ending} (hW : Inw I G B Q N H H0 val) (h : GrowR w v F N I l c G B Q H0 val n 1 1 0 e w') :
  ∃ (bb m ln sz : Int) (val' : Nat → Nat) (u : Value) (er : Int), e = .returned (.tuple #[.int .i64 bb, dinW m ln sz val', u, .int .i64 er]) ∧ GroX w w' v F N I l c G B Q H0 val n bb m ln sz val' u er := by
 rcases h with ⟨h0, rfl, F', c', hc, hv, hs⟩ | ⟨rfl, F', c', hc, hv, hs⟩ | ⟨h0, b, q, cp, zs, F', I', H', val', l', c', rfl, hii, hq, hk, hz, hv, hW', hb, hb0, hkp, hl, hc, hi, hs⟩
 ·exact ⟨_, _, _, _, val, _, _, rfl, F', I, H, l, c', hv, by omega, hc, hs, .inr ⟨rfl, rfl, rfl, rfl, hW, fun k _ _ => rfl, rfl, h0, fun i _ _ => rfl, fun _ => rfl, none, 0, [], rfl, ii_nil _, fun k hk => (by cases hk), rfl, by simp⟩⟩
 ·exact ⟨0, 0, 0, 0, fun _ => 0, .slice none 0 0, 5, rfl, F', I, H, l, c', hv, by omega, hc, hs, .inl ⟨rfl, rfl, rfl⟩⟩
 ·exact ⟨_, _, _, _, val', _, _, rfl, F', I', H', l', c', hv, hl, hc, hs, .inr ⟨rfl, rfl, rfl, rfl, hW', hi, by rw [hb], by rw [hb]; exact hb0, hkp, fun h9 => absurd h0 h9, q, cp, zs, rfl, hii, hq, hk, hz⟩⟩
theorem GroX.stp {w w' : World} {v : Nat} {F : Nat → Prop} {N : Nat} {I : Nat → List Int} {l c G B Q : Nat} {H0 : Nat → List Int} {val : Nat → Nat} {n : Nat} {bb m ln sz : Int} {val' : Nat → Nat} {u : Value} {er : Int} (h : GroX w w' v F N I l c G B Q H0 val n bb m ln sz val' u er) : Pt.Frame F w w' := by
 obtain ⟨_, _, _, _, _, _, _, _, h, _⟩ := h
 exact h.fr
def GroY (wr wx : World) (v : Nat) (F : Nat → Prop) (N : Nat) (I : Nat → List Int) (l c G B Q : Nat) (H0 : Nat → List Int) (val : Nat → Nat) (n : Nat) (v15 v16 v17 v14 : Value) : Prop :=
 ∃ (x : Nat) (bb m ln sz : Int) (val' : Nat → Nat) (er : Int) (F' : Nat → Prop) (I' H' : Nat → List Int) (l' c' : Nat), v15 = .int .i64 bb ∧ v16 = .pointer (some ⟨x, 0, none⟩) ∧ v14 = .int .i64 er ∧ wx.heap[x]? = some (dinX m ln sz val') ∧ ¬ F' x ∧ wr.heap.size ≤ x ∧ Vol wx v F' N I' l' c' ∧ l' ≤ l + 9 ∧ c' ≤ c + 30 ∧ Pt.Stp F F' wr wx ∧ ((er = 5 ∧ I' = I ∧ l' = l) ∨
  (er = 0 ∧ m = 1 ∧ ln = 1 ∧ sz = 0 ∧ Inw I' G B Q N H' H0 val' ∧ (∀ k, k % B ≠ 1 → k % B < 2 + Q / 4 → I' k = I k) ∧ bb = (val' (slotOf n) : Int) ∧ val' (slotOf n) ≠ 0 ∧ (∀ i, i < 4230 → val i ≠ 0 → val' i = val i) ∧ (val (slotOf n) ≠ 0 → val' = val) ∧
   ∃ (q : Option Addr) (cp : Nat) (zs : List Int), v17 = .slice q zs.length cp ∧ Pt.II wx q zs.length zs ∧ (∀ k, Pt.blkOf q = some k → ¬ F' k) ∧ zs.all (Pt.kn l') = true ∧ zs.length ≤ 6))
def dinC (m ln sz : Int) (val : Nat → Nat) : Array Value := #[.int .i64 m, .int .i64 ln, .int .i64 sz, .int .i64 (val 0 : Int), .int .i64 (val 1 : Int), .int .i64 (val 2 : Int), .int .i64 (val 3 : Int), .int .i64 (val 4 : Int), .int .i64 (val 5 : Int)]
theorem dinC_one (m ln sz : Int) (val : Nat → Nat) : (dinC m ln sz val).all (·.oneCell') = true := by simp [dinC, Value.oneCell']
theorem dinC_info (m ln sz : Int) (val : Nat → Nat) : (Tryz.prog.info? 75).map (·.size) = some (dinC m ln sz val).size := by kernel_rfl
section
variable {wr w5 : World} {v : Nat} {F : Nat → Prop} {N : Nat} {I : Nat → List Int} {l c G B Q : Nat} {H0 : Nat → List Int} {val : Nat → Nat} {n : Nat} {bb m ln sz : Int} {val' : Nat → Nat} {u : Value} {er : Int}
theorem groY_call (h : GroX wr.drew w5 v F N I l c G B Q H0 val n bb m ln sz val' u er) (o : Obj) (ho : o = Mk.dinO 0 0 0 0 0 0 0 0 0) : GroY wr ((w5.alloc o).setRow w5.heap.size (dinC m ln sz val')) v F N I l c G B Q H0 val n (.int .i64 bb) (.pointer (some ⟨w5.heap.size, 0, none⟩)) u (.int .i64 er) := by
 obtain ⟨F', I', H', l', c', hv, hl, hc, hs, hr⟩ := h
 have hn : (w5.alloc o).heap[w5.heap.size]? = some (Mk.dinO 0 0 0 0 0 0 0 0 0) := by rw [← ho]; exact at_new rfl
 have hb : Below w5.heap.size w5 ((w5.alloc o).setRow w5.heap.size (dinC m ln sz val')) := below_setRow (Mk.grew_alloc _ _) (Nat.le_refl _) _
 refine ⟨w5.heap.size, bb, m, ln, sz, val', er, F', I', H', l', c', rfl, rfl, rfl, setRow_heap _ _ _ _ _ _ hn, fun hf => by have := hv.lt _ hf; omega, hs.fr.size, hv.later hb, hl, hc, stp_grown (stp_after (Below.refl _ _).drew hs) hb, ?_⟩
 rcases hr with hr | ⟨r0, r1, r2, r3, r4, r5, r6, r7, r8, r9, q, cp, zs, e, hii, hq, hk, hz⟩
 ·exact .inl hr
 ·exact .inr ⟨r0, r1, r2, r3, r4, r5, r6, r7, r8, r9, q, cp, zs, e, hii.kept hb, fun k hk => (hq k hk).2, hk, hz⟩
theorem groY_block {o : Obj} (h : GroX (wr.drew.alloc o) w5 v F N I l c G B Q H0 val n bb m ln sz val' u er) (ho : o = Mk.dinO 0 0 0 0 0 0 0 0 0) (hF : ∀ k, F k → k < wr.heap.size) : w5.heap[wr.heap.size]? = some (Mk.dinO 0 0 0 0 0 0 0 0 0) ∧ GroY wr (w5.setRow wr.heap.size (dinC m ln sz val')) v F N I l c G B Q H0 val n (.int .i64 bb) (.pointer (some ⟨wr.heap.size, 0, none⟩)) u (.int .i64 er) := by
 obtain ⟨F', I', H', l', c', hv, hl, hc, hs, hr⟩ := h
 have hsz : (wr.drew.alloc o).heap.size = wr.heap.size + 1 := by simp
 have hn : w5.heap[wr.heap.size]? = some (Mk.dinO 0 0 0 0 0 0 0 0 0) := by
  rw [hs.fr.block _ (by omega) (fun hf => by have := hF _ hf; omega), ← ho]
  exact at_new (w := wr.drew) rfl
 have hs5 := hs.fr.size
 have hnF : ¬ F' wr.heap.size := fun hf => (hs.new _ hf).elim (fun h9 => by have := hF _ h9; omega) (fun h9 => by have h9 : (wr.drew.alloc o).heap.size ≤ wr.heap.size := h9; omega)
 have hoth : ∀ k, k ≠ wr.heap.size → (w5.setRow wr.heap.size (dinC m ln sz val')).heap[k]? = w5.heap[k]? := fun k hk => setRow_other _ _ _ _ hk
 have hlow : Below wr.heap.size w5 (w5.setRow wr.heap.size (dinC m ln sz val')) := below_setRow (Below.refl _ _) (Nat.le_refl _) _
 refine ⟨hn, wr.heap.size, bb, m, ln, sz, val', er, F', I', H', l', c', rfl, rfl, rfl, setRow_heap _ _ _ _ _ _ hn, hnF, Nat.le_refl _, hv.else hlow.size (fun k hk => hoth k (fun e => hnF (e ▸ hk))), hl, hc, stp_low (stp_after ((Below.refl _ _).drew.alloc (Nat.le_refl _) _) hs) hlow, ?_⟩
 rcases hr with hr | ⟨r0, r1, r2, r3, r4, r5, r6, r7, r8, r9, q, cp, zs, e, hii, hq, hk, hz⟩
 ·exact .inl hr
 ·exact .inr ⟨r0, r1, r2, r3, r4, r5, r6, r7, r8, r9, q, cp, zs, e, hii.keptIf (fun k hk _ => hoth k (by have := (hq k hk).1; omega)), fun k hk => (hq k hk).2, hk, hz⟩
end
theorem mod_4164 (z : Int) : ∃ n : Nat, (IntKind.u64.wrap z).tmod 4164 = (n : Int) ∧ wrap64 (n : Int) = (n : Int) ∧ n < 4164 := by
 have h0 : 0 ≤ IntKind.u64.wrap z := by rw [IntKind.wrap_u64]; omega
 have h1 : (IntKind.u64.wrap z).tmod 4164 = (IntKind.u64.wrap z) % 4164 := Int.tmod_eq_emod_of_nonneg h0
 have h2 := Int.emod_nonneg (IntKind.u64.wrap z) (show (4164 : Int) ≠ 0 by omega)
 have h3 := Int.emod_lt_of_pos (IntKind.u64.wrap z) (show (0 : Int) < 4164 by omega)
 generalize (IntKind.u64.wrap z) % 4164 = x at *
 refine ⟨x.toNat, ?_, IntWalk.wrap64_in _ ⟨by omega, by omega⟩, by omega⟩
 rw [h1]; omega
theorem wrap_4164 {n : Nat} (h : n < 4164) : IntKind.i64.wrap (n : Int) = (n : Int) := Mk.Num.wraps_i64 (n : Int) (by omega) (by omega)
theorem inw_put {I : Nat → List Int} {G B Q N : Nat} {H H0 : Nat → List Int} {val : Nat → Nat} (hg : Geo G B Q N) (h : Inw I G B Q N H H0 val) {ino : Nat} (hi : ino < G * Q) (o : Nat) (xs : List Int) : Inw (updI I (iP B Q ino) o xs) G B Q N H H0 val := by
 have hp := iP_mod hg hi
 refine ⟨hds_else hg h.hds _ _ _ (by omega), ⟨fun j hj hv p hp6 => ?_, h.tre.dead, h.tre.inj⟩, h.rng, h.bits, h.rows⟩
 have := (h.rng j (inner_lt hj) hv).2.1
 rw [adI_else _ _ _ (fun e => by rw [← e] at hp; omega)]
 exact h.tre.live j hj hv p hp6
end Go.Proofs.YthdlpeejmmobmaaGreat

namespace Go.Proofs.YthdlpeejmmobmaaGreat
open Go.RowKit Go.Maps
open Mk.Al (putY)
set_option linter.unusedVariables false
set_option maxRecDepth 100000
structure R4 (wx : World) (x p v : Nat) (g b i : Nat) (pd px py : Value) : Prop where
 g : wx.heap[x]? = some (Mk.geomO g b i)
 p : wx.heap[p]? = some (.cells #[pd, .pointer (some ⟨v, 0, none⟩), px, py] 33 (0, 0))
theorem R4.lt {wx : World} {x p v g b i : Nat} {pd px py : Value} (h : R4 wx x p v g b i pd px py) : x < wx.heap.size ∧ p < wx.heap.size := ⟨(Array.getElem?_eq_some_iff.1 h.g).1, (Array.getElem?_eq_some_iff.1 h.p).1⟩
theorem R4.keptIf {wx wy : World} {x p v g b i : Nat} {pd px py : Value} (h : R4 wx x p v g b i pd px py) (h1 : wy.heap[x]? = wx.heap[x]?) (h2 : wy.heap[p]? = wx.heap[p]?) : R4 wy x p v g b i pd px py := ⟨h1.trans h.g, h2.trans h.p⟩
theorem R4.kept {wx wy : World} {x p v g b i : Nat} {pd px py : Value} (h : R4 wx x p v g b i pd px py) (hb : Below wx.heap.size wx wy) : R4 wy x p v g b i pd px py := h.keptIf (hb.block _ h.lt.1) (hb.block _ h.lt.2)
theorem R4.cells {wx : World} {x p v g b i : Nat} {pd px py : Value} (h : R4 wx x p v g b i pd px py) : wx.cell? ⟨x, 0, none⟩ = some (.int .i64 (g : Int)) ∧ wx.cell? ⟨x, 1, none⟩ = some (.int .i64 (b : Int)) ∧ wx.cell? ⟨x, 2, none⟩ = some (.int .i64 (i : Int)) ∧ wx.cell? ⟨p, 1, none⟩ = some (.pointer (some ⟨v, 0, none⟩)) := ⟨(g3_of h.g).c0, (g3_of h.g).c1, (g3_of h.g).c2, cell_of_row _ _ 1 _ 33 _ h.p⟩
end Go.Proofs.YthdlpeejmmobmaaGreat
