/- The document's Copy. -/
import Derived.Test.YtnbknoibelajaabRefImage
import Derived.Test.YtnbknoibelajaabRefCrash
namespace Go.Proofs.Ytnbknoibelajaab
open Go.RowKit Go.Maps

section
variable {B : Nat} {w w' : World} {x : Nat} {bv qv fv : Value} {gB gQ : List (Nat × Nat)} {S : St}

theorem RI.fnews (h : RI B w x bv qv fv gB gQ S) {g n cap : Nat} {LL : List Value} (hfv : fv = .slice (some ⟨g, 0, none⟩) n cap) (hn : n = S.N) (hL : ((List.range S.N).map fun b => Value.int .i64 (S.fl b)) = LL) : ∀ i u, LL[i]? = some u → w.cell? ((⟨g, 0, none⟩ : Addr).add i) = some u := by
  subst hL
  subst hn
  intro i u hu
  have hf := h.fs
  rw [hfv] at hf
  have hi := (List.getElem?_eq_some_iff.1 hu).1
  rw [Addr.add_mid, Nat.zero_add, hf.cellAt i (by simpa using hi), hu]

/-- The copy as it begins: blocks and failures, no queue. -/
theorem copy_start {v2 vf : Value} {ps : List (Nat × Nat)} {M : Nat} {LL : List Value} (hM : M = S.N) (hL : ((List.range S.N).map fun b => Value.int .i64 (S.fl b)) = LL) (hown : w.ownsRow B 30 1 v2 M (ps.map slc)) (hel : ∀ (i : Nat) (p : Nat × Nat), ps[i]? = some p → Own B w p.1 128 p.2 (S.f i)) (hf : w.ownsRow B 3 1 vf M LL) (hB : B ≤ w.heap.size) :
    RI B (w.alloc (.cells #[v2, .slice none 0 0, vf, .int .i64 S.last] 71)) w.heap.size v2 (.slice none 0 0) vf ps [] { S with q := S.q.take 0 } := by
  subst hM
  subst hL
  have hb := (Below.refl w.heap.size w).alloc (Nat.le_refl _) (.cells #[v2, .slice none 0 0, vf, .int .i64 S.last] 71)
  exact ⟨at_new rfl, ownsRow_kept hown (fun k hk => hb.block k (hown.lt k hk).2), fun i p hp => (hel i p hp).kept hb, World.ownsRow_nil _ _ _ _, rfl, by simp, ownsRow_kept hf (fun k hk => hb.block k (hf.lt k hk).2), hB⟩

theorem tcells {T : Nat} {a b c : Value} (h : w.heap[T]? = some (.cells #[a, b, c] 52 (0, 0))) : w.cell? ⟨T, 0, none⟩ = some a ∧ w.cell? ⟨T, 1, none⟩ = some b ∧ w.cell? ⟨T, 2, none⟩ = some c := by
  refine ⟨?_, ?_, ?_⟩
  · rw [cell_of_row _ T 0 _ _ _ h]; rfl
  · rw [cell_of_row _ T 1 _ _ _ h]; rfl
  · rw [cell_of_row _ T 2 _ _ _ h]; rfl

theorem take_len {q : List Wr} {n j : Nat} (hn : n = q.length) (hj : j < n) : (q.take j).length = j := by simp; omega

theorem RI.qs_of (h : RI B w x bv qv fv gB gQ S) {q : List Wr} {j : Nat} {LQ : List Value} (hq : S.q = q) (hj : q.length = j) (hL : rflat gQ q = LQ) : w.ownsRow B 52 3 qv j LQ := by
  subst hq
  subst hj
  subst hL
  exact h.qs

theorem RI.at1 (h : RI B w x bv qv fv gB gQ S) (hg : w.grownBy w' qv.ownBlock) : w'.cell? ⟨x, 1, none⟩ = some qv ∧ w'.frozen? ⟨x, 1, none⟩ = false := by
  have hrow := h.row_at hg (not_row h.row h.qs (by decide))
  exact ⟨by rw [cell_of_row _ x 1 _ _ _ hrow]; rfl, by simp [World.frozen?, hrow]⟩

theorem RI.copyPush {j : Nat} {LQ : List Value} (h : RI B w x bv qv fv gB gQ { S with q := S.q.take j }) (hj : (S.q.take j).length = j) (hL : rflat gQ (S.q.take j) = LQ) {y : Wr} (hy : S.q[j]? = some y) {p : Nat × Nat} (hp : Own B w p.1 128 p.2 y.bytes) {v : Value} (hown : w'.ownsRow B 52 3 v (j + 1) (LQ ++ rsent p y)) (hg : w.grownBy w' qv.ownBlock) : RI B (w'.setCell ⟨x, 1, none⟩ v) x bv v fv gB (gQ ++ [p]) { S with q := S.q.take (j + 1) } := by
  subst hL
  have hown' : w'.ownsRow B 52 3 v ((S.q.take j).length + 1) (rflat gQ (S.q.take j) ++ rsent p y) := by rw [hj]; exact hown
  have := h.pushQ hp hown' hg
  rw [take_snoc hy]
  exact this

/-- A row made since the first world is none of the old disk's. -/
theorem made_far {w3 : World} {v : Value} {L : List Value} {n : Nat} (h : RI B w x bv qv fv gB gQ S) (_hb : Below w.heap.size w w3) (hm : w3.ownsRow w.heap.size 3 1 v n L) {k : Nat} (hk : rfoot x bv qv fv k ∨ rrows gB gQ k) : some k ≠ v.ownBlock := by
  intro e
  have h1 := (h.in hk).2
  have h2 := (hm.lt k e.symm).1
  omega

set_option maxRecDepth 10000 in
set_option maxHeartbeats 4000000 in
theorem rcopy_ok (h : RI B w x bv qv fv gB gQ S) (hS : Ok S) : Calls Try.prog 18 #[.pointer (some ⟨x, 0, none⟩)] w fun e w' => ∃ x' bv' qv' fv' gB' gQ', e = .returned (.pointer (some ⟨x', 0, none⟩)) ∧ RI w.heap.size w' x' bv' qv' fv' gB' gQ' S ∧ Below w.heap.size w w' := by
  obtain ⟨i3, hi3, hy0, hy1, hy2⟩ := info_parts info3
  obtain ⟨i52, hi52, hz0, hz1, hz2⟩ := info_parts info52
  obtain ⟨gf, cf, hfv⟩ := h.fcase hS.N1
  obtain ⟨qp, qc, hqv, hpg⟩ := row_case h.qs
  have hN1 := hS.N1
  have hN2 := hS.N2
  have h64 := hS.q64
  obtain ⟨M, hM⟩ : ∃ M, M = S.N := ⟨_, rfl⟩
  obtain ⟨n, hn⟩ : ∃ n, n = S.q.length := ⟨_, rfl⟩
  rw [← hM] at hfv hN1 hN2
  rw [← hn] at hqv h64 hpg
  have HM := (show Hid (M = S.N) from hM)
  have HN := (show Hid (n = S.q.length) from hn)
  have HF := (show Hid (fv = .slice (some ⟨gf, 0, none⟩) M cf) from hfv)
  have HQ := (show Hid (qv = .slice qp n qc) from hqv)
  clear hM hn hfv hqv
  obtain ⟨LL, HLL⟩ : ∃ LL, Hid (((List.range S.N).map fun b => Value.int .i64 (S.fl b)) = LL) := ⟨_, rfl⟩
  have hLlen : LL.length = M * 1 := by rw [← HLL.out, HM.out]; simp
  have hLone : ∀ u ∈ LL, u.oneCell' = true := by rw [← HLL.out]; intro u hu; obtain ⟨b, _, rfl⟩ := List.mem_map.1 hu; rfl
  have HLO := (show Hid _ from hLone)
  have HLN := (show Hid _ from hLlen)
  clear hLone hLlen
  have two : ∀ {W : World}, RI B W x bv qv fv gB gQ S → W.cell? ⟨x, 3, none⟩ = some (.int .i64 S.last) ∧ W.cell? ⟨x, 2, none⟩ = some (.slice (some ⟨gf, 0, none⟩) M cf) := fun h => ⟨h.c3, by rw [h.c2, HF.out]⟩
  have hrd := h.later (Below.refl _ _).drew
  have be := ((Below.refl w.heap.size w).alloc (Nat.le_refl _) (.cells #[] 3)).drew
  have hre := h.later be
  have t0 := two hrd
  have te := two hre
  obtain ⟨u0, u1⟩ := two hrd
  obtain ⟨u2, u3⟩ := two hre
  have HT := (show Hid _ from @two)
  clear two
  have hmax : 0 + M ≤ maxLen := by unfold maxLen; omega
  have hmE : ((w.alloc (.cells #[] 3)).drew).ownsRow w.heap.size 3 1 (.slice (some ⟨w.heap.size, 0, none⟩) 0 0) 0 [] := World.ownsRow_made w #[] 0 (Nat.le_refl _) (Nat.zero_le _) rfl
  go_enter Try.func18, Try.ntmps18
  go_wp2_with fail
  go_region_held3 (fun w' => w'.cell? ⟨x, 3, none⟩ = some (.int .i64 S.last) ∧ w'.cell? ⟨x, 2, none⟩ = some (.slice (some ⟨gf, 0, none⟩) M cf)) (first | exact t0 | exact te | exact t2 | exact t2a | exact t4 | exact t5)
    (first
      | (go_at_call 38; refine Calls.mono (rimage_ok hrd hS) ?_; rintro e w2 ⟨v2, ps, rfl, hown2, hel2, hb2⟩; rw [← HM.out] at hown2; obtain ⟨p2, c2, rfl, _⟩ := row_case hown2; have hr2 := hrd.later hb2; have t2 := HT.out hr2; have ba := (Below.refl w2.heap.size w2).alloc (Nat.le_refl _) (.cells #[] 3); have hr3 := hr2.later ba; have t2a := HT.out hr3; have hm3 : (w2.alloc (.cells #[] 3)).ownsRow w.heap.size 3 1 (.slice (some ⟨w2.heap.size, 0, none⟩) 0 0) 0 [] := World.ownsRow_made w2 #[] 0 hb2.size (Nat.zero_le _) rfl; have hown3 := ownsRow_kept hown2 (w' := w2.alloc (.cells #[] 3)) (fun k hk => ba.block k (hown2.lt k hk).2); have hel3 : ∀ (i : Nat) (p : Nat × Nat), ps[i]? = some p → Own w.heap.size (w2.alloc (.cells #[] 3)) p.1 128 p.2 (S.f i) := (fun i p hp => (hel2 i p hp).kept ba); have hbw3 : Below w.heap.size w (w2.alloc (.cells #[] 3)) := ((Below.refl w.heap.size w).drew.trans hb2).trans (ba.mono hb2.size); have HNW := (show Hid _ from hr3.fnews HF.out HM.out HLL.out); have hsz3 : (w2.alloc (.cells #[] 3)).heap.size = w2.heap.size + 1 := (by simp))
      | (go_at_call 38; refine Calls.mono (rimage_ok hre hS) ?_; rintro e w2 ⟨v2, ps, rfl, hown2, hel2, hb2⟩; rw [← HM.out] at hown2; obtain ⟨p2, c2, rfl, _⟩ := row_case hown2; have hr3 := hre.later hb2; have t2 := HT.out hr3; have hm3 := ownsRow_kept hmE (w' := w2) (fun k hk => hb2.block k (hmE.lt k hk).2); have hown3 := ownsRow_base hown2 be.size; have hel3 : ∀ (i : Nat) (p : Nat × Nat), ps[i]? = some p → Own w.heap.size w2 p.1 128 p.2 (S.f i) := (fun i p hp => (hel2 i p hp).base be.size); have hbw3 : Below w.heap.size w w2 := be.trans (hb2.mono be.size); have HNW := (show Hid _ from hr3.fnews HF.out HM.out HLL.out))
      | (refine step_append_lies _ (by rfl) _ _ _ (by rfl) w.heap.size 3 i3 (.int .i64 0) 1 8 Try.underlying31 hi3 hy0 hy1 hy2 (by rfl) (by omega) _ 0 [] (by rfl) hm3 ⟨gf, 0, none⟩ M cf LL (by rfl) HLN.out HNW.out HLO.out hN1 hmax (by omega) hbw3.size _ hsz3 ?_; intro g cap w4 hown4 hgrow4 hat4 hlt4; have hr4 : RI B w4 x bv qv fv gB gQ S := hr3.kept (fun k hk => hgrow4.block k (hr3.in hk).2 (made_far h hbw3 hm3 hk)); have t4 := HT.out hr4; have t5 := HT.out (hr4.later ((Below.refl w4.heap.size w4).alloc (Nat.le_refl _) (.cells #[.slice p2 M c2, .slice none 0 0, .slice (some ⟨g, 0, none⟩) M cap, .int .i64 S.last] 71))))
      | (refine step_append_lies _ (by rfl) _ _ _ (by rfl) w.heap.size 3 i3 (.int .i64 0) 1 8 Try.underlying31 hi3 hy0 hy1 hy2 (by rfl) (by omega) _ 0 [] (by rfl) hm3 ⟨gf, 0, none⟩ M cf LL (by rfl) HLN.out HNW.out HLO.out hN1 hmax (by omega) hbw3.size w2.heap.size rfl ?_; intro g cap w4 hown4 hgrow4 hat4 hlt4; have hr4 : RI B w4 x bv qv fv gB gQ S := hr3.kept (fun k hk => hgrow4.block k (hr3.in hk).2 (made_far h hbw3 hm3 hk)); have t4 := HT.out hr4; have t5 := HT.out (hr4.later ((Below.refl w4.heap.size w4).alloc (Nat.le_refl _) (.cells #[.slice p2 M c2, .slice none 0 0, .slice (some ⟨g, 0, none⟩) M cap, .int .i64 S.last] 71)))))
  all_goals (
    have hown5 := ownsRow_kept hown3 (w' := w4) (fun k hk => hgrow4.block k (hown3.lt k hk).2 (fun e => owns_ne hown3 hm3 (by decide) hk e.symm))
    have hel5 : ∀ (i : Nat) (p : Nat × Nat), ps[i]? = some p → Own w.heap.size w4 p.1 128 p.2 (S.f i) := fun i p hp => ownsRow_kept (hel3 i p hp) (fun k hk => hgrow4.block k (World.ownsRow.lt (hel3 i p hp) k hk).2 (fun e => owns_ne (hel3 i p hp) hm3 (by decide) hk e.symm))
    rw [Nat.zero_add, List.nil_append] at hown4
    have hbw4 := hbw3.grown hgrow4 hbw3.size (fun k hk => (hm3.lt k hk).1)
    have hc0 := copy_start HM.out HLL.out hown5 hel5 hown4 hbw4.size
    have hb0 := hbw4.alloc hbw4.size (.cells #[.slice p2 M c2, .slice none 0 0, .slice (some ⟨g, 0, none⟩) M cap, .int .i64 S.last] 71)
    have hq0 := (h.later hb0).c1
    rw [HQ.out] at hq0
    have hxlo : w.heap.size ≤ w4.heap.size := hbw4.size
    clear hown4 hgrow4 hat4 hlt4 hown5 hel5 hown3 hel3 hm3 hr4 t4 t5 hr3 hbw3 HNW hb2 hown2 hel2
    go_wp2_with fail
    generalize w4.alloc (.cells #[.slice p2 M c2, .slice none 0 0, .slice (some ⟨g, 0, none⟩) M cap, .int .i64 S.last] 71) = w5 at hc0 hb0 hq0 ⊢
    obtain ⟨x', hx'⟩ : ∃ x', w4.heap.size = x' := ⟨_, rfl⟩
    rw [hx'] at hc0 hxlo ⊢
    clear hx'
    go_loopw [25] (fun i wr => ∃ (j : Nat) (qv' : Value) (gQ' : List (Nat × Nat)), j ≤ n ∧ i = .int .i64 (j : Int) ∧ RI w.heap.size wr x' (.slice p2 M c2) qv' (.slice (some ⟨g, 0, none⟩) M cap) ps gQ' { S with q := S.q.take j } ∧ Below w.heap.size w wr) (fun i _ => n - (intOf i).toNat)
    case atStart => exact ⟨0, _, _, by omega, rfl, hc0, hb0⟩
    case round =>
      clear hc0 hb0 hq0
      obtain ⟨j, qv', gQ', hj, rfl, hr, hb⟩ := hrel
      by_cases hlt : j < n
      · obtain ⟨gq, rfl⟩ := hpg (by omega)
        obtain ⟨y, hy⟩ : ∃ y, S.q[j]? = some y := ⟨S.q[j]'(by have := HN.out; omega), List.getElem?_eq_getElem (by have := HN.out; omega)⟩
        obtain ⟨py, hpy, s0, s1, s2, hpo⟩ := (h.later hb).sentAt (g := gq) (cap := qc) (by rw [HQ.out, HN.out]) hy
        unfold slc at s2
        have hysec := (hS.qok y (List.mem_of_getElem? hy)).2.1
        have hjI : (j : Int) < (n : Int) := by omega
        have hmaxj : j + 1 ≤ maxLen := by unfold maxLen; omega
        have bT := (Below.refl wr.heap.size wr).alloc (Nat.le_refl _) (.cells #[.int .i64 y.id, .int .i64 (y.block : Int), .slice (some ⟨py.1, 0, none⟩) 128 py.2] 52)
        have hT6' : (wr.alloc (.cells #[.int .i64 y.id, .int .i64 (y.block : Int), .slice (some ⟨py.1, 0, none⟩) 128 py.2] 52)).heap[wr.heap.size]? = some (.cells #[.int .i64 y.id, .int .i64 (y.block : Int), .slice (some ⟨py.1, 0, none⟩) 128 py.2] 52 (0, 0)) := at_new rfl
        have hTq : qv'.ownBlock ≠ some wr.heap.size := fun e => by have := (hr.qs.lt _ e).2; omega
        have hTx : wr.heap.size ≠ x' := by have := (Array.getElem?_eq_some_iff.1 hr.row).1; omega
        go_wp2_with fail
        generalize wr.alloc (.cells #[.int .i64 y.id, .int .i64 (y.block : Int), .slice (some ⟨py.1, 0, none⟩) 128 py.2] 52) = w6 at bT hT6' ⊢
        have hT6 : w6.drew.heap[wr.heap.size]? = _ := hT6'
        have hr6 := (hr.later bT).later (Below.refl _ _).drew
        have hbi := ((hpo.kept bT).kept (Below.refl _ _).drew).bi (by omega) hysec.2
        have hbw6 := (hb.trans (bT.mono hb.size)).drew
        have hB6 : w.heap.size ≤ w6.drew.heap.size := hbw6.size
        obtain ⟨T, hTe⟩ : ∃ T, wr.heap.size = T := ⟨_, rfl⟩
        rw [hTe] at hT6 hTq hTx ⊢
        clear hTe hT6' bT hpo s0 s1 s2 hr
        have S6 := tcells hT6
        have cx6 := hr6.c1
        obtain ⟨LQ, HLQ⟩ : ∃ LQ, Hid (rflat gQ' (S.q.take j) = LQ) := ⟨_, rfl⟩
        refine wp_region_noPanic ?_
        refine wp_region_held_drew (S := fun w' => w'.cell? ⟨T, 0, none⟩ = some (.int .i64 y.id) ∧ w'.cell? ⟨T, 1, none⟩ = some (.int .i64 (y.block : Int)) ∧ w'.cell? ⟨T, 2, none⟩ = some (.slice (some ⟨py.1, 0, none⟩) 128 py.2)) (by kernel_rfl) S6 (fun hHeld => ?_)
        refine wpAnyH_take (i := 0) (oi := { dst := some 29, op := Op.move (Operand.tmp 3), type := 27, pos := "ref.go:140", after := #[], guard := none }) (v := ?_) rfl (by kernel_rfl) (by kernel_rfl) (by kernel_rfl) (fun _ _ _ h => h) (Or.inl ⟨by rfl, ?_⟩) (by assumption) ?_
        rotate_left
        · (intro w hSw; (try dsimp only at hSw); go_simp; try (with_reducible rfl))
        simp only [Act.put, List.setIfInBounds_toArray, List.set_cons_zero, List.set_cons_succ]
        refine wpAnyH_take (i := 1) (oi := { dst := some 30, op := Op.move (Operand.tmp 3), type := 27, pos := "ref.go:140", after := #[], guard := none }) (v := ?_) rfl (by kernel_rfl) (by kernel_rfl) (by kernel_rfl) (fun _ _ _ h => h) (Or.inl ⟨by rfl, ?_⟩) (by assumption) ?_
        rotate_left
        · (intro w hSw; (try dsimp only at hSw); go_simp; try (with_reducible rfl))
        simp only [Act.put, List.setIfInBounds_toArray, List.set_cons_zero, List.set_cons_succ]
        refine wpAnyH_take (i := 2) (oi := { dst := some 31, op := Op.nilCheck (Operand.tmp 30), type := 0, pos := "ref.go:140", after := #[{ on := 1, ground := Ground.data }], guard := none }) (v := ?_) rfl (by kernel_rfl) (by kernel_rfl) (by kernel_rfl) (fun _ _ _ h => h) (Or.inl ⟨by rfl, ?_⟩) (by assumption) ?_
        rotate_left
        · (intro w hSw; (try dsimp only at hSw); go_simp; try (with_reducible rfl))
        simp only [Act.put, List.setIfInBounds_toArray, List.set_cons_zero, List.set_cons_succ]
        refine wpAnyH_take (i := 3) (oi := { dst := some 32, op := Op.fieldAddr 71 (Operand.tmp 31) 1, type := 0, pos := "ref.go:140", after := #[{ on := 2, ground := Ground.data }], guard := none }) (v := ?_) rfl (by kernel_rfl) (by kernel_rfl) (by kernel_rfl) (fun _ _ _ h => h) (Or.inl ⟨by rfl, ?_⟩) (by assumption) ?_
        rotate_left
        · (intro w hSw; (try dsimp only at hSw); go_simp; try (with_reducible rfl))
        simp only [Act.put, List.setIfInBounds_toArray, List.set_cons_zero, List.set_cons_succ]
        refine wpAnyH_take (i := 5) (oi := { dst := some 34, op := Op.fieldAddr 52 (Operand.tmp 5) 0, type := 0, pos := "ref.go:140", after := #[], guard := none }) (v := ?_) rfl (by kernel_rfl) (by kernel_rfl) (by kernel_rfl) (fun _ _ _ h => h) (Or.inl ⟨by rfl, ?_⟩) (by assumption) ?_
        rotate_left
        · (intro w hSw; (try dsimp only at hSw); go_simp; try (with_reducible rfl))
        simp only [Act.put, List.setIfInBounds_toArray, List.set_cons_zero, List.set_cons_succ]
        refine wpAnyH_take (i := 6) (oi := { dst := some 35, op := Op.load 3 (Operand.tmp 34), type := 3, pos := "ref.go:140", after := #[{ on := 5, ground := Ground.data }], guard := none }) (v := ?_) rfl (by kernel_rfl) (by kernel_rfl) (by kernel_rfl) (fun _ _ _ h => h) (Or.inl ⟨by rfl, ?_⟩) (by assumption) ?_
        rotate_left
        · (intro w hSw; (try dsimp only at hSw); go_simp; try (with_reducible rfl))
        simp only [Act.put, List.setIfInBounds_toArray, List.set_cons_zero, List.set_cons_succ]
        refine wpAnyH_take (i := 7) (oi := { dst := some 36, op := Op.fieldAddr 52 (Operand.tmp 5) 1, type := 0, pos := "ref.go:140", after := #[], guard := none }) (v := ?_) rfl (by kernel_rfl) (by kernel_rfl) (by kernel_rfl) (fun _ _ _ h => h) (Or.inl ⟨by rfl, ?_⟩) (by assumption) ?_
        rotate_left
        · (intro w hSw; (try dsimp only at hSw); go_simp; try (with_reducible rfl))
        simp only [Act.put, List.setIfInBounds_toArray, List.set_cons_zero, List.set_cons_succ]
        refine wpAnyH_take (i := 8) (oi := { dst := some 37, op := Op.load 3 (Operand.tmp 36), type := 3, pos := "ref.go:140", after := #[{ on := 7, ground := Ground.data }], guard := none }) (v := ?_) rfl (by kernel_rfl) (by kernel_rfl) (by kernel_rfl) (fun _ _ _ h => h) (Or.inl ⟨by rfl, ?_⟩) (by assumption) ?_
        rotate_left
        · (intro w hSw; (try dsimp only at hSw); go_simp; try (with_reducible rfl))
        simp only [Act.put, List.setIfInBounds_toArray, List.set_cons_zero, List.set_cons_succ]
        refine wpAnyH_take (i := 9) (oi := { dst := some 38, op := Op.fieldAddr 52 (Operand.tmp 5) 2, type := 0, pos := "ref.go:140", after := #[], guard := none }) (v := ?_) rfl (by kernel_rfl) (by kernel_rfl) (by kernel_rfl) (fun _ _ _ h => h) (Or.inl ⟨by rfl, ?_⟩) (by assumption) ?_
        rotate_left
        · (intro w hSw; (try dsimp only at hSw); go_simp; try (with_reducible rfl))
        simp only [Act.put, List.setIfInBounds_toArray, List.set_cons_zero, List.set_cons_succ]
        refine wpAnyH_take (i := 10) (oi := { dst := some 39, op := Op.load 30 (Operand.tmp 38), type := 30, pos := "ref.go:140", after := #[{ on := 9, ground := Ground.data }], guard := none }) (v := ?_) rfl (by kernel_rfl) (by kernel_rfl) (by kernel_rfl) (fun _ _ _ h => h) (Or.inl ⟨by rfl, ?_⟩) (by assumption) ?_
        rotate_left
        · (intro w hSw; (try dsimp only at hSw); go_simp; try (with_reducible rfl))
        simp only [Act.put, List.setIfInBounds_toArray, List.set_cons_zero, List.set_cons_succ]
        refine wpAnyH_ready (rs := [4, 11]) (by kernel_rfl) (by simp) ?_
        refine AllReadyH.cons (o := { dst := some 33, op := Op.load 47 (Operand.tmp 32), type := 47, pos := "ref.go:140", after := #[{ on := 3, ground := Ground.data }], guard := none }) rfl (fun K hK => ?_) (AllReadyH.cons (o := { dst := some 40, op := Op.call { callee := Callee.value (Operand.func 41), args := #[Operand.tmp 39], argTypes := #[30] }, type := 30, pos := "ref.go:140", after := #[{ on := 10, ground := Ground.data }], guard := none }) rfl (fun K hK => ?_) AllReadyH.nil)
        · rw [if_pos (by rfl)]
          go_simp
          refine hK.out _ _ S6 (fun hHeld => ?_)
          clear hK K
          try simp only [Act.put, List.setIfInBounds_toArray, List.set_cons_zero, List.set_cons_succ]
          refine wpAnyH_ready (rs := [11]) (by kernel_rfl) (by simp) ?_
          refine AllReadyH.cons (o := { dst := some 40, op := Op.call { callee := Callee.value (Operand.func 41), args := #[Operand.tmp 39], argTypes := #[30] }, type := 30, pos := "ref.go:140", after := #[{ on := 10, ground := Ground.data }], guard := none }) rfl (fun K hK => ?_) AllReadyH.nil
          rw [if_pos (by rfl)]
          go_simp
          refine Calls.mono (copied_ok _ 128 _ y.bytes _ hbi) ?_
          rintro e w7 ⟨g7, c7, rfl, ho7, hb7⟩
          dsimp only
          have hr7 := hr6.later hb7
          have hT7 : w7.heap[T]? = _ := (hb7.block T (Array.getElem?_eq_some_iff.1 hT6).1).trans hT6
          have S7 := tcells hT7
          have ba := (Below.refl w7.heap.size w7).alloc (Nat.le_refl _) (.cells #[.int .i64 y.id, .int .i64 (y.block : Int), .slice (some ⟨g7, 0, none⟩) 128 c7] 52)
          have hr8 := hr7.later ba
          have hT8 := (ba.block T (Array.getElem?_eq_some_iff.1 hT7).1).trans hT7
          have S8 := tcells hT8
          have cx7 := hr7.c1
          have cx8 := hr8.c1
          have ho8 := (ho7.kept ba).base (B' := w.heap.size) hB6
          have hqs := hr8.qs_of (show S.q.take j = _ from rfl) (take_len HN.out hlt) HLQ.out
          have hbw8 := (hbw6.trans (hb7.mono hB6)).trans (ba.mono (Nat.le_trans hB6 hb7.size))
          have HNW := (show Hid (∀ i u, (rsent (g7, c7) y)[i]? = some u → (w7.alloc (.cells #[.int .i64 y.id, .int .i64 (y.block : Int), .slice (some ⟨g7, 0, none⟩) 128 c7] 52)).cell? ((⟨w7.heap.size, 0, none⟩ : Addr).add i) = some u) from World.news_of_block (cs := (rsent (g7, c7) y).toArray) (t := 52) (fr := (0, 0)) (at_new rfl))
          have hone : ∀ u ∈ rsent (g7, c7) y, u.oneCell' = true := by intro u hu; simp [rsent, slc] at hu; rcases hu with rfl | rfl | rfl <;> rfl
          have HO := (show Hid _ from hone)
          clear hone
          refine hK.out _ _ S7 (fun hHeld => ?_)
          clear hK K
          try simp only [Act.put, List.setIfInBounds_toArray, List.set_cons_zero, List.set_cons_succ]
          refine wpAnyH_take (i := 12) (oi := { dst := some 41, op := Op.build 52 #[(0, Operand.tmp 35), (1, Operand.tmp 37), (2, Operand.tmp 40)], type := 52, pos := "ref.go:140", after := #[{ on := 6, ground := Ground.data }, { on := 8, ground := Ground.data }, { on := 11, ground := Ground.data }], guard := none }) (v := .agg #[.int .i64 y.id, .int .i64 (y.block : Int), .slice (some ⟨g7, 0, none⟩) 128 c7]) rfl (by kernel_rfl) (by kernel_rfl) (by kernel_rfl) (fun _ _ _ h => h) (Or.inl ⟨by rfl, ?_⟩) (by assumption) ?_
          · (intro w hSw; (try dsimp only at hSw); go_simp)
          simp only [Act.put, List.setIfInBounds_toArray, List.set_cons_zero, List.set_cons_succ]
          refine wpAnyH_ready (rs := [13]) (by kernel_rfl) (by simp) ?_
          refine AllReadyH.cons (o := { dst := some 42, op := Op.buildSlice 47 1 #[(0, Operand.tmp 41)], type := 47, pos := "ref.go:140", after := #[{ on := 12, ground := Ground.data }], guard := none }) rfl (fun K hK => ?_) AllReadyH.nil
          rw [if_pos (by rfl)]
          go_simp
          refine hK.out _ _ S8 (fun hHeld => ?_)
          clear hK K
          try simp only [Act.put, List.setIfInBounds_toArray, List.set_cons_zero, List.set_cons_succ]
          refine wpAnyH_ready (rs := [14]) (by kernel_rfl) (by simp) ?_
          refine AllReadyH.cons (o := { dst := some 43, op := Op.call { callee := Callee.builtin Builtin.append, args := #[Operand.tmp 33, Operand.tmp 42], argTypes := #[47, 47] }, type := 47, pos := "ref.go:140", after := #[{ on := 4, ground := Ground.data }, { on := 13, ground := Ground.data }, { on := 11, ground := Ground.chain }], guard := none }) rfl (fun K hK => ?_) AllReadyH.nil
          refine step_append_lies _ (by rfl) _ _ _ (by rfl) w.heap.size 52 i52 (.agg #[.int .i64 0, .int .i64 0, .slice none 0 0]) 3 40 Try.underlying47 hi52 hz0 hz1 hz2 (by rfl) (by omega) qv' j LQ (by rfl) hqs ⟨w7.heap.size, 0, none⟩ 1 1 (rsent (g7, c7) y) (by rfl) rfl HNW.out HO.out (by omega) hmaxj (by omega) hbw8.size (w7.heap.size + 1) (by simp) ?_
          intro g9 cap9 w9 hown9 hgrow9 hat9 hlt9
          have hT9 : w9.heap[T]? = _ := (hgrow9.block T (Array.getElem?_eq_some_iff.1 hT8).1 (fun e => hTq e.symm)).trans hT8
          have S9 := tcells hT9
          obtain ⟨cx9, fx9⟩ := hr8.at1 hgrow9
          have hfin := hr8.copyPush (take_len HN.out hlt) HLQ.out hy ho8 hown9 hgrow9
          have hbw9 := hbw8.grown hgrow9 hbw8.size (fun k hk => (hqs.lt k hk).1)
          have hT10 : (w9.setCell ⟨x', 1, none⟩ (.slice (some ⟨g9, 0, none⟩) (j + 1) cap9)).heap[T]? = _ := (Below.heap_setCell w9 ⟨x', 1, none⟩ _ T hTx).trans hT9
          have S10 := tcells hT10
          refine hK.out _ _ S9 (fun hHeld => ?_)
          clear hK K
          try simp only [Act.put, List.setIfInBounds_toArray, List.set_cons_zero, List.set_cons_succ]
          refine wpAnyH_take (i := 15) (oi := { dst := some 44, op := Op.nilCheck (Operand.tmp 29), type := 0, pos := "ref.go:140", after := #[{ on := 0, ground := Ground.data }, { on := 0, ground := Ground.phase }, { on := 1, ground := Ground.phase }, { on := 2, ground := Ground.phase }, { on := 3, ground := Ground.phase }, { on := 4, ground := Ground.phase }, { on := 5, ground := Ground.phase }, { on := 6, ground := Ground.phase }, { on := 7, ground := Ground.phase }, { on := 8, ground := Ground.phase }, { on := 9, ground := Ground.phase }, { on := 10, ground := Ground.phase }, { on := 11, ground := Ground.phase }, { on := 12, ground := Ground.phase }, { on := 13, ground := Ground.phase }, { on := 14, ground := Ground.phase }], guard := none }) (v := ?_) rfl (by kernel_rfl) (by kernel_rfl) (by kernel_rfl) (fun _ _ _ h => h) (Or.inl ⟨by rfl, ?_⟩) (by assumption) ?_
          rotate_left
          · (intro w hSw; (try dsimp only at hSw); go_simp; try (with_reducible rfl))
          simp only [Act.put, List.setIfInBounds_toArray, List.set_cons_zero, List.set_cons_succ]
          refine wpAnyH_take (i := 16) (oi := { dst := some 45, op := Op.fieldAddr 71 (Operand.tmp 44) 1, type := 0, pos := "ref.go:140", after := #[{ on := 15, ground := Ground.data }, { on := 0, ground := Ground.phase }, { on := 1, ground := Ground.phase }, { on := 2, ground := Ground.phase }, { on := 3, ground := Ground.phase }, { on := 4, ground := Ground.phase }, { on := 5, ground := Ground.phase }, { on := 6, ground := Ground.phase }, { on := 7, ground := Ground.phase }, { on := 8, ground := Ground.phase }, { on := 9, ground := Ground.phase }, { on := 10, ground := Ground.phase }, { on := 11, ground := Ground.phase }, { on := 12, ground := Ground.phase }, { on := 13, ground := Ground.phase }, { on := 14, ground := Ground.phase }], guard := none }) (v := ?_) rfl (by kernel_rfl) (by kernel_rfl) (by kernel_rfl) (fun _ _ _ h => h) (Or.inl ⟨by rfl, ?_⟩) (by assumption) ?_
          rotate_left
          · (intro w hSw; (try dsimp only at hSw); go_simp; try (with_reducible rfl))
          simp only [Act.put, List.setIfInBounds_toArray, List.set_cons_zero, List.set_cons_succ]
          refine wpAnyH_ready (rs := [17]) (by kernel_rfl) (by simp) ?_
          refine AllReadyH.cons (o := { dst := none, op := Op.store 47 (Operand.tmp 45) (Operand.tmp 43), type := 0, pos := "ref.go:140", after := #[{ on := 16, ground := Ground.data }, { on := 14, ground := Ground.data }, { on := 14, ground := Ground.chain }, { on := 0, ground := Ground.phase }, { on := 1, ground := Ground.phase }, { on := 2, ground := Ground.phase }, { on := 3, ground := Ground.phase }, { on := 4, ground := Ground.phase }, { on := 5, ground := Ground.phase }, { on := 6, ground := Ground.phase }, { on := 7, ground := Ground.phase }, { on := 8, ground := Ground.phase }, { on := 9, ground := Ground.phase }, { on := 10, ground := Ground.phase }, { on := 11, ground := Ground.phase }, { on := 12, ground := Ground.phase }, { on := 13, ground := Ground.phase }, { on := 14, ground := Ground.phase }], guard := none }) rfl (fun K hK => ?_) AllReadyH.nil
          rw [if_pos (by rfl)]
          go_simp
          refine hK.out _ _ S10 (fun hHeld => ?_)
          clear hK K
          try simp only [Act.put, List.setIfInBounds_toArray, List.set_cons_zero, List.set_cons_succ]
          refine wpAnyH_done (by kernel_rfl) ?_ _
          refine NoPanic.normal ?_
          have hbw10 := hbw9.setCell (p := ⟨x', 1, none⟩) hxlo (.slice (some ⟨g9, 0, none⟩) (j + 1) cap9)
          clear hHeld S7 S8 S9 S10 hT7 hT8 hT9 hT10 hown9 hgrow9 hat9 hlt9 hr7 hr8 hqs cx7 cx8 cx9 fx9 ho7 ho8 HNW HO
          go_wp2
          go_roundw
          case rel => exact ⟨j + 1, _, _, by omega, by go_num, hfin, hbw10⟩
          case measure => simp [intOf]; omega
        · rw [if_pos (by rfl)]
          go_simp
          refine Calls.mono (copied_ok _ 128 _ y.bytes _ hbi) ?_
          rintro e w7 ⟨g7, c7, rfl, ho7, hb7⟩
          dsimp only
          have hr7 := hr6.later hb7
          have hT7 : w7.heap[T]? = _ := (hb7.block T (Array.getElem?_eq_some_iff.1 hT6).1).trans hT6
          have S7 := tcells hT7
          have ba := (Below.refl w7.heap.size w7).alloc (Nat.le_refl _) (.cells #[.int .i64 y.id, .int .i64 (y.block : Int), .slice (some ⟨g7, 0, none⟩) 128 c7] 52)
          have hr8 := hr7.later ba
          have hT8 := (ba.block T (Array.getElem?_eq_some_iff.1 hT7).1).trans hT7
          have S8 := tcells hT8
          have cx7 := hr7.c1
          have cx8 := hr8.c1
          have ho8 := (ho7.kept ba).base (B' := w.heap.size) hB6
          have hqs := hr8.qs_of (show S.q.take j = _ from rfl) (take_len HN.out hlt) HLQ.out
          have hbw8 := (hbw6.trans (hb7.mono hB6)).trans (ba.mono (Nat.le_trans hB6 hb7.size))
          have HNW := (show Hid (∀ i u, (rsent (g7, c7) y)[i]? = some u → (w7.alloc (.cells #[.int .i64 y.id, .int .i64 (y.block : Int), .slice (some ⟨g7, 0, none⟩) 128 c7] 52)).cell? ((⟨w7.heap.size, 0, none⟩ : Addr).add i) = some u) from World.news_of_block (cs := (rsent (g7, c7) y).toArray) (t := 52) (fr := (0, 0)) (at_new rfl))
          have hone : ∀ u ∈ rsent (g7, c7) y, u.oneCell' = true := by intro u hu; simp [rsent, slc] at hu; rcases hu with rfl | rfl | rfl <;> rfl
          have HO := (show Hid _ from hone)
          clear hone
          refine hK.out _ _ S7 (fun hHeld => ?_)
          clear hK K
          try simp only [Act.put, List.setIfInBounds_toArray, List.set_cons_zero, List.set_cons_succ]
          refine wpAnyH_take (i := 12) (oi := { dst := some 41, op := Op.build 52 #[(0, Operand.tmp 35), (1, Operand.tmp 37), (2, Operand.tmp 40)], type := 52, pos := "ref.go:140", after := #[{ on := 6, ground := Ground.data }, { on := 8, ground := Ground.data }, { on := 11, ground := Ground.data }], guard := none }) (v := .agg #[.int .i64 y.id, .int .i64 (y.block : Int), .slice (some ⟨g7, 0, none⟩) 128 c7]) rfl (by kernel_rfl) (by kernel_rfl) (by kernel_rfl) (fun _ _ _ h => h) (Or.inl ⟨by rfl, ?_⟩) (by assumption) ?_
          · (intro w hSw; (try dsimp only at hSw); go_simp)
          simp only [Act.put, List.setIfInBounds_toArray, List.set_cons_zero, List.set_cons_succ]
          refine wpAnyH_ready (rs := [4, 13]) (by kernel_rfl) (by simp) ?_
          refine AllReadyH.cons (o := { dst := some 33, op := Op.load 47 (Operand.tmp 32), type := 47, pos := "ref.go:140", after := #[{ on := 3, ground := Ground.data }], guard := none }) rfl (fun K hK => ?_) (AllReadyH.cons (o := { dst := some 42, op := Op.buildSlice 47 1 #[(0, Operand.tmp 41)], type := 47, pos := "ref.go:140", after := #[{ on := 12, ground := Ground.data }], guard := none }) rfl (fun K hK => ?_) AllReadyH.nil)
          · rw [if_pos (by rfl)]
            go_simp
            refine hK.out _ _ S7 (fun hHeld => ?_)
            clear hK K
            try simp only [Act.put, List.setIfInBounds_toArray, List.set_cons_zero, List.set_cons_succ]
            refine wpAnyH_ready (rs := [13]) (by kernel_rfl) (by simp) ?_
            refine AllReadyH.cons (o := { dst := some 42, op := Op.buildSlice 47 1 #[(0, Operand.tmp 41)], type := 47, pos := "ref.go:140", after := #[{ on := 12, ground := Ground.data }], guard := none }) rfl (fun K hK => ?_) AllReadyH.nil
            rw [if_pos (by rfl)]
            go_simp
            refine hK.out _ _ S8 (fun hHeld => ?_)
            clear hK K
            try simp only [Act.put, List.setIfInBounds_toArray, List.set_cons_zero, List.set_cons_succ]
            refine wpAnyH_ready (rs := [14]) (by kernel_rfl) (by simp) ?_
            refine AllReadyH.cons (o := { dst := some 43, op := Op.call { callee := Callee.builtin Builtin.append, args := #[Operand.tmp 33, Operand.tmp 42], argTypes := #[47, 47] }, type := 47, pos := "ref.go:140", after := #[{ on := 4, ground := Ground.data }, { on := 13, ground := Ground.data }, { on := 11, ground := Ground.chain }], guard := none }) rfl (fun K hK => ?_) AllReadyH.nil
            refine step_append_lies _ (by rfl) _ _ _ (by rfl) w.heap.size 52 i52 (.agg #[.int .i64 0, .int .i64 0, .slice none 0 0]) 3 40 Try.underlying47 hi52 hz0 hz1 hz2 (by rfl) (by omega) qv' j LQ (by rfl) hqs ⟨w7.heap.size, 0, none⟩ 1 1 (rsent (g7, c7) y) (by rfl) rfl HNW.out HO.out (by omega) hmaxj (by omega) hbw8.size (w7.heap.size + 1) (by simp) ?_
            intro g9 cap9 w9 hown9 hgrow9 hat9 hlt9
            have hT9 : w9.heap[T]? = _ := (hgrow9.block T (Array.getElem?_eq_some_iff.1 hT8).1 (fun e => hTq e.symm)).trans hT8
            have S9 := tcells hT9
            obtain ⟨cx9, fx9⟩ := hr8.at1 hgrow9
            have hfin := hr8.copyPush (take_len HN.out hlt) HLQ.out hy ho8 hown9 hgrow9
            have hbw9 := hbw8.grown hgrow9 hbw8.size (fun k hk => (hqs.lt k hk).1)
            have hT10 : (w9.setCell ⟨x', 1, none⟩ (.slice (some ⟨g9, 0, none⟩) (j + 1) cap9)).heap[T]? = _ := (Below.heap_setCell w9 ⟨x', 1, none⟩ _ T hTx).trans hT9
            have S10 := tcells hT10
            refine hK.out _ _ S9 (fun hHeld => ?_)
            clear hK K
            try simp only [Act.put, List.setIfInBounds_toArray, List.set_cons_zero, List.set_cons_succ]
            refine wpAnyH_take (i := 15) (oi := { dst := some 44, op := Op.nilCheck (Operand.tmp 29), type := 0, pos := "ref.go:140", after := #[{ on := 0, ground := Ground.data }, { on := 0, ground := Ground.phase }, { on := 1, ground := Ground.phase }, { on := 2, ground := Ground.phase }, { on := 3, ground := Ground.phase }, { on := 4, ground := Ground.phase }, { on := 5, ground := Ground.phase }, { on := 6, ground := Ground.phase }, { on := 7, ground := Ground.phase }, { on := 8, ground := Ground.phase }, { on := 9, ground := Ground.phase }, { on := 10, ground := Ground.phase }, { on := 11, ground := Ground.phase }, { on := 12, ground := Ground.phase }, { on := 13, ground := Ground.phase }, { on := 14, ground := Ground.phase }], guard := none }) (v := ?_) rfl (by kernel_rfl) (by kernel_rfl) (by kernel_rfl) (fun _ _ _ h => h) (Or.inl ⟨by rfl, ?_⟩) (by assumption) ?_
            rotate_left
            · (intro w hSw; (try dsimp only at hSw); go_simp; try (with_reducible rfl))
            simp only [Act.put, List.setIfInBounds_toArray, List.set_cons_zero, List.set_cons_succ]
            refine wpAnyH_take (i := 16) (oi := { dst := some 45, op := Op.fieldAddr 71 (Operand.tmp 44) 1, type := 0, pos := "ref.go:140", after := #[{ on := 15, ground := Ground.data }, { on := 0, ground := Ground.phase }, { on := 1, ground := Ground.phase }, { on := 2, ground := Ground.phase }, { on := 3, ground := Ground.phase }, { on := 4, ground := Ground.phase }, { on := 5, ground := Ground.phase }, { on := 6, ground := Ground.phase }, { on := 7, ground := Ground.phase }, { on := 8, ground := Ground.phase }, { on := 9, ground := Ground.phase }, { on := 10, ground := Ground.phase }, { on := 11, ground := Ground.phase }, { on := 12, ground := Ground.phase }, { on := 13, ground := Ground.phase }, { on := 14, ground := Ground.phase }], guard := none }) (v := ?_) rfl (by kernel_rfl) (by kernel_rfl) (by kernel_rfl) (fun _ _ _ h => h) (Or.inl ⟨by rfl, ?_⟩) (by assumption) ?_
            rotate_left
            · (intro w hSw; (try dsimp only at hSw); go_simp; try (with_reducible rfl))
            simp only [Act.put, List.setIfInBounds_toArray, List.set_cons_zero, List.set_cons_succ]
            refine wpAnyH_ready (rs := [17]) (by kernel_rfl) (by simp) ?_
            refine AllReadyH.cons (o := { dst := none, op := Op.store 47 (Operand.tmp 45) (Operand.tmp 43), type := 0, pos := "ref.go:140", after := #[{ on := 16, ground := Ground.data }, { on := 14, ground := Ground.data }, { on := 14, ground := Ground.chain }, { on := 0, ground := Ground.phase }, { on := 1, ground := Ground.phase }, { on := 2, ground := Ground.phase }, { on := 3, ground := Ground.phase }, { on := 4, ground := Ground.phase }, { on := 5, ground := Ground.phase }, { on := 6, ground := Ground.phase }, { on := 7, ground := Ground.phase }, { on := 8, ground := Ground.phase }, { on := 9, ground := Ground.phase }, { on := 10, ground := Ground.phase }, { on := 11, ground := Ground.phase }, { on := 12, ground := Ground.phase }, { on := 13, ground := Ground.phase }, { on := 14, ground := Ground.phase }], guard := none }) rfl (fun K hK => ?_) AllReadyH.nil
            rw [if_pos (by rfl)]
            go_simp
            refine hK.out _ _ S10 (fun hHeld => ?_)
            clear hK K
            try simp only [Act.put, List.setIfInBounds_toArray, List.set_cons_zero, List.set_cons_succ]
            refine wpAnyH_done (by kernel_rfl) ?_ _
            refine NoPanic.normal ?_
            have hbw10 := hbw9.setCell (p := ⟨x', 1, none⟩) hxlo (.slice (some ⟨g9, 0, none⟩) (j + 1) cap9)
            clear hHeld S7 S8 S9 S10 hT7 hT8 hT9 hT10 hown9 hgrow9 hat9 hlt9 hr7 hr8 hqs cx7 cx8 cx9 fx9 ho7 ho8 HNW HO
            go_wp2
            go_roundw
            case rel => exact ⟨j + 1, _, _, by omega, by go_num, hfin, hbw10⟩
            case measure => simp [intOf]; omega
          · rw [if_pos (by rfl)]
            go_simp
            refine hK.out _ _ S8 (fun hHeld => ?_)
            clear hK K
            try simp only [Act.put, List.setIfInBounds_toArray, List.set_cons_zero, List.set_cons_succ]
            refine wpAnyH_ready (rs := [4]) (by kernel_rfl) (by simp) ?_
            refine AllReadyH.cons (o := { dst := some 33, op := Op.load 47 (Operand.tmp 32), type := 47, pos := "ref.go:140", after := #[{ on := 3, ground := Ground.data }], guard := none }) rfl (fun K hK => ?_) AllReadyH.nil
            rw [if_pos (by rfl)]
            go_simp
            refine hK.out _ _ S8 (fun hHeld => ?_)
            clear hK K
            try simp only [Act.put, List.setIfInBounds_toArray, List.set_cons_zero, List.set_cons_succ]
            refine wpAnyH_ready (rs := [14]) (by kernel_rfl) (by simp) ?_
            refine AllReadyH.cons (o := { dst := some 43, op := Op.call { callee := Callee.builtin Builtin.append, args := #[Operand.tmp 33, Operand.tmp 42], argTypes := #[47, 47] }, type := 47, pos := "ref.go:140", after := #[{ on := 4, ground := Ground.data }, { on := 13, ground := Ground.data }, { on := 11, ground := Ground.chain }], guard := none }) rfl (fun K hK => ?_) AllReadyH.nil
            refine step_append_lies _ (by rfl) _ _ _ (by rfl) w.heap.size 52 i52 (.agg #[.int .i64 0, .int .i64 0, .slice none 0 0]) 3 40 Try.underlying47 hi52 hz0 hz1 hz2 (by rfl) (by omega) qv' j LQ (by rfl) hqs ⟨w7.heap.size, 0, none⟩ 1 1 (rsent (g7, c7) y) (by rfl) rfl HNW.out HO.out (by omega) hmaxj (by omega) hbw8.size (w7.heap.size + 1) (by simp) ?_
            intro g9 cap9 w9 hown9 hgrow9 hat9 hlt9
            have hT9 : w9.heap[T]? = _ := (hgrow9.block T (Array.getElem?_eq_some_iff.1 hT8).1 (fun e => hTq e.symm)).trans hT8
            have S9 := tcells hT9
            obtain ⟨cx9, fx9⟩ := hr8.at1 hgrow9
            have hfin := hr8.copyPush (take_len HN.out hlt) HLQ.out hy ho8 hown9 hgrow9
            have hbw9 := hbw8.grown hgrow9 hbw8.size (fun k hk => (hqs.lt k hk).1)
            have hT10 : (w9.setCell ⟨x', 1, none⟩ (.slice (some ⟨g9, 0, none⟩) (j + 1) cap9)).heap[T]? = _ := (Below.heap_setCell w9 ⟨x', 1, none⟩ _ T hTx).trans hT9
            have S10 := tcells hT10
            refine hK.out _ _ S9 (fun hHeld => ?_)
            clear hK K
            try simp only [Act.put, List.setIfInBounds_toArray, List.set_cons_zero, List.set_cons_succ]
            refine wpAnyH_take (i := 15) (oi := { dst := some 44, op := Op.nilCheck (Operand.tmp 29), type := 0, pos := "ref.go:140", after := #[{ on := 0, ground := Ground.data }, { on := 0, ground := Ground.phase }, { on := 1, ground := Ground.phase }, { on := 2, ground := Ground.phase }, { on := 3, ground := Ground.phase }, { on := 4, ground := Ground.phase }, { on := 5, ground := Ground.phase }, { on := 6, ground := Ground.phase }, { on := 7, ground := Ground.phase }, { on := 8, ground := Ground.phase }, { on := 9, ground := Ground.phase }, { on := 10, ground := Ground.phase }, { on := 11, ground := Ground.phase }, { on := 12, ground := Ground.phase }, { on := 13, ground := Ground.phase }, { on := 14, ground := Ground.phase }], guard := none }) (v := ?_) rfl (by kernel_rfl) (by kernel_rfl) (by kernel_rfl) (fun _ _ _ h => h) (Or.inl ⟨by rfl, ?_⟩) (by assumption) ?_
            rotate_left
            · (intro w hSw; (try dsimp only at hSw); go_simp; try (with_reducible rfl))
            simp only [Act.put, List.setIfInBounds_toArray, List.set_cons_zero, List.set_cons_succ]
            refine wpAnyH_take (i := 16) (oi := { dst := some 45, op := Op.fieldAddr 71 (Operand.tmp 44) 1, type := 0, pos := "ref.go:140", after := #[{ on := 15, ground := Ground.data }, { on := 0, ground := Ground.phase }, { on := 1, ground := Ground.phase }, { on := 2, ground := Ground.phase }, { on := 3, ground := Ground.phase }, { on := 4, ground := Ground.phase }, { on := 5, ground := Ground.phase }, { on := 6, ground := Ground.phase }, { on := 7, ground := Ground.phase }, { on := 8, ground := Ground.phase }, { on := 9, ground := Ground.phase }, { on := 10, ground := Ground.phase }, { on := 11, ground := Ground.phase }, { on := 12, ground := Ground.phase }, { on := 13, ground := Ground.phase }, { on := 14, ground := Ground.phase }], guard := none }) (v := ?_) rfl (by kernel_rfl) (by kernel_rfl) (by kernel_rfl) (fun _ _ _ h => h) (Or.inl ⟨by rfl, ?_⟩) (by assumption) ?_
            rotate_left
            · (intro w hSw; (try dsimp only at hSw); go_simp; try (with_reducible rfl))
            simp only [Act.put, List.setIfInBounds_toArray, List.set_cons_zero, List.set_cons_succ]
            refine wpAnyH_ready (rs := [17]) (by kernel_rfl) (by simp) ?_
            refine AllReadyH.cons (o := { dst := none, op := Op.store 47 (Operand.tmp 45) (Operand.tmp 43), type := 0, pos := "ref.go:140", after := #[{ on := 16, ground := Ground.data }, { on := 14, ground := Ground.data }, { on := 14, ground := Ground.chain }, { on := 0, ground := Ground.phase }, { on := 1, ground := Ground.phase }, { on := 2, ground := Ground.phase }, { on := 3, ground := Ground.phase }, { on := 4, ground := Ground.phase }, { on := 5, ground := Ground.phase }, { on := 6, ground := Ground.phase }, { on := 7, ground := Ground.phase }, { on := 8, ground := Ground.phase }, { on := 9, ground := Ground.phase }, { on := 10, ground := Ground.phase }, { on := 11, ground := Ground.phase }, { on := 12, ground := Ground.phase }, { on := 13, ground := Ground.phase }, { on := 14, ground := Ground.phase }], guard := none }) rfl (fun K hK => ?_) AllReadyH.nil
            rw [if_pos (by rfl)]
            go_simp
            refine hK.out _ _ S10 (fun hHeld => ?_)
            clear hK K
            try simp only [Act.put, List.setIfInBounds_toArray, List.set_cons_zero, List.set_cons_succ]
            refine wpAnyH_done (by kernel_rfl) ?_ _
            refine NoPanic.normal ?_
            have hbw10 := hbw9.setCell (p := ⟨x', 1, none⟩) hxlo (.slice (some ⟨g9, 0, none⟩) (j + 1) cap9)
            clear hHeld S7 S8 S9 S10 hT7 hT8 hT9 hT10 hown9 hgrow9 hat9 hlt9 hr7 hr8 hqs cx7 cx8 cx9 fx9 ho7 ho8 HNW HO
            go_wp2
            go_roundw
            case rel => exact ⟨j + 1, _, _, by omega, by go_num, hfin, hbw10⟩
            case measure => simp [intOf]; omega
      · obtain rfl : n = j := by omega
        rw [List.take_of_length_le (by have := HN.out; omega)] at hr
        go_wp2
        go_ret
        first | exact ⟨_, _, _, _, _, _, rfl, hr, hb⟩ | exact ⟨rfl, _, _, _, _, _, _, hr, hb⟩)
end
end Go.Proofs.Ytnbknoibelajaab
