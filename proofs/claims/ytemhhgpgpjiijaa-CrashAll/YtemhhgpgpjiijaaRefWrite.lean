/- The document's disk: Write. -/
import Derived.Test.YtemhhgpgpjiijaaRefNew
namespace Go.Proofs.Ytemhhgpgpjiijaa
open Go.RowKit Go.Maps

theorem rflat_snoc (gs : List (Nat × Nat)) (q : List Wr) (p : Nat × Nat) (y : Wr) (h : gs.length = q.length) : rflat (gs ++ [p]) (q ++ [y]) = rflat gs q ++ rsent p y := by
  simp [rflat, List.zip_append h]

section
variable {B : Nat} {w w' : World} {x : Nat} {bv qv fv : Value} {gB gQ : List (Nat × Nat)} {S : St}

theorem RI.row_at (h : RI B w x bv qv fv gB gQ S) {g : Option Nat} (hg : w.grownBy w' g) (hne : g ≠ some x) : w'.heap[x]? = some (.cells #[bv, qv, fv, .int .i64 S.last] 92 (0, 0)) :=
  (hg.block x (Array.getElem?_eq_some_iff.1 h.row).1 (fun e => hne e.symm)).trans h.row

/-- One write more. -/
theorem RI.pushQ (h : RI B w x bv qv fv gB gQ S) {p : Nat × Nat} {y : Wr} (hp : Own B w p.1 128 p.2 y.bytes) {v : Value} (hown : w'.ownsRow B 44 3 v (S.q.length + 1) (rflat gQ S.q ++ rsent p y)) (hg : w.grownBy w' qv.ownBlock) : RI B (w'.setCell ⟨x, 1, none⟩ v) x bv v fv gB (gQ ++ [p]) { S with q := S.q ++ [y] } := by
  have hxq := not_row h.row h.qs (by decide)
  have hrow := h.row_at hg hxq
  have hxv := not_row hrow hown (by decide)
  have hk : ∀ k, k ≠ x → (w'.setCell ⟨x, 1, none⟩ v).heap[k]? = w'.heap[k]? := fun k hk => Below.heap_setCell w' ⟨x, 1, none⟩ _ k hk
  have hkr : ∀ {e : TypeId} {s m : Nat} {u : Value} {Lx : List Value}, w.ownsRow B e s u m Lx → e ≠ 44 → e ≠ 92 → (w'.setCell ⟨x, 1, none⟩ v).ownsRow B e s u m Lx := by
    intro e s m u Lx ho h52 h71
    refine ownsRow_kept ho (fun k hk' => ?_)
    have h1 : k ≠ x := by rintro rfl; exact not_row h.row ho h71 hk'
    rw [hk k h1]
    exact hg.block k (ho.lt k hk').2 (fun e' => owns_ne ho h.qs h52 hk' e'.symm)
  refine ⟨row_set hrow 1 v, hkr h.bs (by decide) (by decide), fun i q hq => hkr (h.bel i q hq) (by decide) (by decide), ?_, by simp [h.qlen], ?_, hkr h.fs (by decide) (by decide), h.lo⟩
  · show World.ownsRow _ B 44 3 v (S.q ++ [y]).length (rflat (gQ ++ [p]) (S.q ++ [y]))
    rw [rflat_snoc _ _ _ _ h.qlen, List.length_append]
    exact ownsRow_kept hown (fun k hk' => hk k (by rintro rfl; exact hxv hk'))
  · intro i z q hz hq
    have hl := h.qlen
    simp only at hz
    by_cases hi : i < S.q.length
    · rw [List.getElem?_append_left hi] at hz
      rw [List.getElem?_append_left (by omega)] at hq
      exact hkr (h.qel i z q hz hq) (by decide) (by decide)
    · rw [List.getElem?_append_right (by omega)] at hz hq
      have hi0 : i - S.q.length = 0 := by have := (List.getElem?_eq_some_iff.1 hz).1; simpa using this
      rw [hi0] at hz
      rw [hl, hi0] at hq
      simp at hz hq
      subst hz
      subst hq
      exact hkr hp (by decide) (by decide)

theorem RI.bump (h : RI B w x bv qv fv gB gQ S) (t : Int) : RI B (w.setCell ⟨x, 3, none⟩ (.int .i64 t)) x bv qv fv gB gQ { S with last := t } := by
  have hk : ∀ k, k ≠ x → (w.setCell ⟨x, 3, none⟩ (.int .i64 t)).heap[k]? = w.heap[k]? := fun k hk => Below.heap_setCell w ⟨x, 3, none⟩ _ k hk
  have hkr : ∀ {e : TypeId} {s m : Nat} {u : Value} {Lx : List Value}, w.ownsRow B e s u m Lx → e ≠ 92 → (w.setCell ⟨x, 3, none⟩ (.int .i64 t)).ownsRow B e s u m Lx := by
    intro e s m u Lx ho h71
    exact ownsRow_kept ho (fun k hk' => hk k (by rintro rfl; exact not_row h.row ho h71 hk'))
  exact ⟨row_set h.row 3 _, hkr h.bs (by decide), fun i q hq => hkr (h.bel i q hq) (by decide), hkr h.qs (by decide), h.qlen, fun i z q hz hq => hkr (h.qel i z q hz hq) (by decide), hkr h.fs (by decide), h.lo⟩

theorem RI.qs_at (h : RI B w x bv qv fv gB gQ S) {qp : Option Addr} {n qc : Nat} {LL : List Value} (hqv : qv = .slice qp n qc) (hn : n = S.q.length) (hL : rflat gQ S.q = LL) : w.ownsRow B 44 3 (.slice qp n qc) n LL := by
  subst hL
  subst hqv
  have := h.qs
  rw [← hn] at this
  exact this

theorem push_fin {qp : Option Addr} {n qc g cap g3 c3 b : Nat} {xs : List Int} {LL : List Value} (h : RI B w x bv qv fv gB gQ { S with last := S.last + 1 }) (hL : rflat gQ S.q = LL) (hn : n = S.q.length) (hqv : qv = .slice qp n qc) (ho : Own B w g3 128 c3 xs) (hown : w'.ownsRow B 44 3 (.slice (some ⟨g, 0, none⟩) (n + 1) cap) (n + 1) (LL ++ rsent (g3, c3) ⟨S.last + 1, b, xs⟩)) (hg : w.grownBy w' (Value.slice qp n qc).ownBlock) : RI B (w'.setCell ⟨x, 1, none⟩ (.slice (some ⟨g, 0, none⟩) (n + 1) cap)) x bv (.slice (some ⟨g, 0, none⟩) (n + 1) cap) fv gB (gQ ++ [(g3, c3)]) (S.put b xs) := by
  subst hL
  rw [← hqv] at hg
  subst hn
  exact h.pushQ (p := (g3, c3)) (y := ⟨S.last + 1, b, xs⟩) ho hown hg

theorem at_one {qp : Option Addr} {n qc : Nat} (h : RI B w x bv qv fv gB gQ S) (hqv : qv = .slice qp n qc) (hg : w.grownBy w' (Value.slice qp n qc).ownBlock) : w'.cell? ⟨x, 1, none⟩ = some (.slice qp n qc) ∧ w'.frozen? ⟨x, 1, none⟩ = false := by
  rw [← hqv] at hg ⊢
  have hrow := h.row_at hg (not_row h.row h.qs (by decide))
  exact ⟨by rw [cell_of_row _ x 1 _ _ _ hrow]; rfl, by simp [World.frozen?, hrow]⟩

theorem rrows_snoc {p : Nat × Nat} {H : Nat} (hp : H ≤ p.1) : ∀ k, rrows gB (gQ ++ [p]) k → rrows gB gQ k ∨ H ≤ k := by
  rintro k (h | ⟨q, hq, rfl⟩)
  · exact .inl (.inl h)
  · rcases List.mem_append.1 hq with hq | hq
    · exact .inl (.inr ⟨q, hq, rfl⟩)
    · simp at hq
      subst hq
      exact .inr hp

theorem rfoot_new {qv' : Value} {H : Nat} (hq : ∀ k, qv'.ownBlock = some k → qv.ownBlock = some k ∨ H ≤ k) : ∀ k, rfoot x bv qv' fv k → rfoot x bv qv fv k ∨ H ≤ k := by
  rintro k (e | e | e | e)
  · exact .inl (.inl e)
  · exact .inl (.inr (.inl e))
  · rcases hq k e with h | h
    · exact .inl (.inr (.inr (.inl h)))
    · exact .inr h
  · exact .inl (.inr (.inr (.inr e)))

set_option maxHeartbeats 400000 in
theorem rwrite_arg (h : RI B w x bv qv fv gB gQ S) (b : Int) (p : Option Addr) (n c : Nat) (hb : ¬ (0 ≤ b ∧ b < S.N) ∨ n ≠ 128) : Calls Try.prog 23 #[.pointer (some ⟨x, 0, none⟩), .int .i64 b, .slice p n c] w fun e w' => e = .returned (.tuple #[.int .i64 0, .int .i64 1]) ∧ w' = w := by
  by_cases hh : 0 ≤ b ∧ b < S.N
  · have hn : n ≠ 128 := by rcases hb with h' | h'; exact absurd hh h'; exact h'
    have hnI : ¬ (n : Int) = 128 := by omega
    obtain ⟨b, rfl⟩ : ∃ m : Nat, b = m := ⟨b.toNat, by omega⟩
    have hc := rhas_true h b (by omega)
    go_enter Try.func23, Try.ntmps23
    go_wp2_with fail
    refine same_at hc ?_
    go_wp2
    go_ret2
    exact ⟨rfl, rfl⟩
  · have hc := rhas_false h b hh
    go_enter Try.func23, Try.ntmps23
    go_wp2_with fail
    refine same_at hc ?_
    go_wp2
    go_ret2
    exact ⟨rfl, rfl⟩

set_option maxRecDepth 10000 in
set_option maxHeartbeats 2000000 in
theorem rwrite_ok (h : RI B w x bv qv fv gB gQ S) (hS : Ok S) (hB : B ≤ w.heap.size) (b : Nat) (p : Option Addr) (c : Nat) (xs : List Int) (hx : BI w p 128 xs) (hb : b < S.N) (hl : S.last < 9223372036854775807) :
    Calls Try.prog 23 #[.pointer (some ⟨x, 0, none⟩), .int .i64 (b : Int), .slice p 128 c] w fun e w' =>
      (((S.q.any fun y => (y.block : Int) == (b : Int)) = true ∧ e = .returned (.tuple #[.int .i64 0, .int .i64 21]) ∧ Below w.heap.size w w') ∨
      ((S.q.any fun y => (y.block : Int) == (b : Int)) = false ∧ 64 ≤ S.q.length ∧ e = .returned (.tuple #[.int .i64 0, .int .i64 3]) ∧ Below w.heap.size w w') ∨
      ((S.q.any fun y => (y.block : Int) == (b : Int)) = false ∧ S.q.length < 64 ∧ ∃ qv' gQ', e = .returned (.tuple #[.int .i64 (S.last + 1), .int .i64 0]) ∧ RI B w' x bv qv' fv gB gQ' (S.put b xs) ∧ Frame (rfoot x bv qv fv) w w' ∧ (∀ k, rrows gB gQ' k → rrows gB gQ k ∨ w.heap.size ≤ k) ∧ ∀ k, rfoot x bv qv' fv k → rfoot x bv qv fv k ∨ w.heap.size ≤ k)) := by
  obtain ⟨i52, hi52, hz0, hz1, hz2⟩ := info_parts info52
  obtain ⟨qp, qc, hqv, hpg⟩ := row_case h.qs
  have hc := h.c1
  rw [hqv] at hc
  have h64 := hS.q64
  have hlo := hS.lok
  obtain ⟨n, hn⟩ : ∃ n, n = S.q.length := ⟨_, rfl⟩
  rw [← hn] at hc h64 hpg hqv
  have HN := (show Hid (n = S.q.length) from hn)
  clear hn
  go_enter Try.func23, Try.ntmps23
  go_wp2_with fail
  refine same_at (rhas_true h b hb) ?_
  go_wp2_with fail
  go_loopw [24] (fun i wr => ∃ j : Nat, j ≤ n ∧ i = .int .i64 (j : Int) ∧ Below w.heap.size w wr ∧ ∀ (k : Nat) (y : Wr), k < j → S.q[k]? = some y → y.block ≠ b) (fun i _ => n - (intOf i).toNat)
  case atStart => exact ⟨0, by omega, rfl, Below.refl _ _, fun k y hk => by omega⟩
  case round =>
    obtain ⟨j, hj, rfl, hbl, hno⟩ := hrel
    by_cases hlt : j < n
    · obtain ⟨g, rfl⟩ := hpg (by omega)
      obtain ⟨y, hy⟩ : ∃ y, S.q[j]? = some y := ⟨S.q[j]'(by have := HN.out; omega), List.getElem?_eq_getElem (by have := HN.out; omega)⟩
      obtain ⟨p', hp', s0, s1, s2, _⟩ := (h.later hbl).sentAt (g := g) (cap := qc) (by rw [hqv, HN.out]) hy
      unfold slc at s2
      have hjI : (j : Int) < (n : Int) := by omega
      by_cases he : y.block = b
      · subst he
        go_wp2
        go_ret2
        refine .inl ⟨?_, rfl, hbl.alloc hbl.size _⟩
        rw [List.any_eq_true]
        exact ⟨y, List.mem_of_getElem? hy, by simp⟩
      · have heI : ¬ (y.block : Int) = (b : Int) := by omega
        go_wp2
        go_roundw
        case rel =>
          refine ⟨j + 1, by omega, by go_num, hbl.alloc hbl.size _, fun k z hk hz => ?_⟩
          by_cases e : k = j
          · subst e
            rw [hy] at hz
            cases hz
            exact he
          · exact hno k z (by omega) hz
        case measure => simp [intOf]; omega
    · obtain rfl : n = j := by omega
      have hany : (S.q.any fun y => (y.block : Int) == (b : Int)) = false := by
        rw [List.any_eq_false]
        intro z hz
        obtain ⟨k, hk⟩ := List.mem_iff_getElem?.1 hz
        have hkl := (List.getElem?_eq_some_iff.1 hk).1
        have := hno k z (by have := HN.out; omega) hk
        simp
        omega
      have hr := h.later hbl
      have hc1 := hr.c1
      have hc3 := hr.c3
      have hfz := hr.froz 3
      have hqv' := hqv
      rw [hqv] at hc1
      by_cases hfull : 64 ≤ n
      · obtain rfl : n = 64 := by omega
        go_wp2
        go_ret2
        exact .inr (.inl ⟨hany, by have := HN.out; omega, rfl, hbl⟩)
      · have hlt64 : (n : Int) < 64 := by omega
        obtain ⟨pb, po, rfl, hpc⟩ := hx.cells (by omega)
        have hw : IntKind.i64.wrap (S.last + 1) = S.last + 1 := by rw [IntKind.wrap_i64]; omega
        have hrb := hr.bump (S.last + 1)
        have hxne : pb ≠ x := by
          rintro rfl
          have h1 := hpc 0 (by omega)
          rw [cell_of_row _ pb (po + 0) _ _ _ h.row] at h1
          match po, h1 with
          | 0, h1 => simp [hqv] at h1; obtain ⟨p0, c0, e0, _⟩ := row_case h.bs; rw [e0] at h1; cases h1
          | 1, h1 => simp [hqv] at h1
          | 2, h1 => simp at h1; obtain ⟨p0, c0, e0, _⟩ := row_case h.fs; rw [e0] at h1; cases h1
          | 3, h1 => simp at h1
          | k + 4, h1 => simp at h1
        have hx2 : BI (wr.setCell ⟨x, 3, none⟩ (.int .i64 (S.last + 1))) (some ⟨pb, po, none⟩) 128 xs := (hx.kept hbl).setOther (by rintro b o e _; cases e; exact hxne) _
        have hf2 : Frame (rfoot x bv qv fv) w (wr.setCell ⟨x, 3, none⟩ (.int .i64 (S.last + 1))) := (frame_of_below hbl).trans (Frame.setCell wr _ (.inl rfl))
        clear hc h hno hpg hr
        go_wp2_with fail
        clear hc1 hc3 hfz
        generalize wr.setCell ⟨x, 3, none⟩ (.int .i64 (S.last + 1)) = w2 at hrb hx2 hf2 ⊢
        have hs2 : w.heap.size ≤ w2.heap.size := hf2.size
        have h2d : RI B w2.drew x bv qv fv gB gQ { S with last := S.last + 1 } := hrb.later (Below.refl _ _).drew
        have hx2d : BI w2.drew (some ⟨pb, po, none⟩) 128 xs := hx2.kept (Below.refl _ _).drew
        have hc1 := h2d.c1
        have hc3 := h2d.c3
        rw [hqv] at hc1
        have hone : ∀ (g3 c3 : Nat), ∀ u ∈ rsent (g3, c3) ⟨S.last + 1, b, xs⟩, u.oneCell' = true := by intro g3 c3 u hu; simp [rsent, slc] at hu; rcases hu with rfl | rfl | rfl <;> rfl
        have HO := (show Hid _ from hone)
        have hmax : n + 1 ≤ maxLen := by unfold maxLen; omega
        obtain ⟨LL, HLL⟩ : ∃ LL, Hid (rflat gQ S.q = LL) := ⟨_, rfl⟩
        clear hone
        go_region_law
          (first
            | (refine step_append_lies _ (by rfl) _ _ _ (by rfl) B 44 i52 (.agg #[.int .i64 0, .int .i64 0, .slice none 0 0]) 3 40 Try.underlying29 hi52 hz0 hz1 hz2 (by rfl) (by omega) (.slice qp n qc) n LL (by rfl) hqa ⟨w3.heap.size, 0, none⟩ 1 1 (rsent (g3, c3) ⟨S.last + 1, b, xs⟩) (by rfl) rfl HNW.out (HO.out g3 c3) (by omega) hmax (by omega) (Nat.le_trans hB3 hba.size) (w3.heap.size + 1) (by simp) ?_; intro g cap w4 hown4 hgrow4 hat4 hlt4; have hfin := push_fin h3a HLL.out HN.out hqv ho3a hown4 hgrow4; obtain ⟨hc4, hf4⟩ := at_one h3a hqv hgrow4)
            | (rw [if_pos (by rfl)]; go_simp; refine Calls.mono (copied_ok _ 128 c xs _ hx2d) ?_; rintro e w3 ⟨g3, c3, rfl, ho3, hb3⟩; have h3 := h2d.later hb3; have hc1' := h3.c1; have hc3' := h3.c3; rw [hqv] at hc1'; have hba := (Below.refl w3.heap.size w3).alloc (Nat.le_refl _) (.cells #[.int .i64 (S.last + 1), .int .i64 (b : Int), .slice (some ⟨g3, 0, none⟩) 128 c3] 44); have h3a := h3.later hba; have hc1a := h3a.c1; have hc3a := h3a.c3; rw [hqv] at hc1a; have ho3a := (ho3.kept hba).base (B' := B) (Nat.le_trans hB hs2); have hB3 : B ≤ w3.heap.size := Nat.le_trans hB (Nat.le_trans hs2 hb3.size); have hqa := h3a.qs_at hqv HN.out HLL.out; have HNW := (show Hid (∀ i u, (rsent (g3, c3) ⟨S.last + 1, b, xs⟩)[i]? = some u → (w3.alloc (.cells #[.int .i64 (S.last + 1), .int .i64 (b : Int), .slice (some ⟨g3, 0, none⟩) 128 c3] 44)).cell? ((⟨w3.heap.size, 0, none⟩ : Addr).add i) = some u) from World.news_of_block (cs := (rsent (g3, c3) ⟨S.last + 1, b, xs⟩).toArray) (t := 44) (fr := (0, 0)) (at_new rfl)); dsimp only))
        all_goals (
          have hsp := ho3.spot
          have hfr := ((((frame_drew hf2).trans (frame_of_below hb3)).trans (frame_of_below hba)).trans (frame_of_grown hgrow4 (fun k hk => .inr (.inr (.inl (by rw [hqv]; exact hk)))))).trans (Frame.setCell (p := ⟨x, 1, none⟩) w4 (.slice (some ⟨g, 0, none⟩) (n + 1) cap) (.inl rfl))
          have hc5 := hfin.c3
          have hnq : ∀ k, (Value.slice (some ⟨g, 0, none⟩) (n + 1) cap).ownBlock = some k → qv.ownBlock = some k ∨ w.heap.size ≤ k := by
            intro k hk
            simp only [Value.ownBlock, Option.some.injEq] at hk
            subst hk
            rcases hat4 with e | e
            · exact .inl (by rw [hqv]; exact e)
            · right
              have := hb3.size
              have e2 : w2.drew.heap.size = w2.heap.size := rfl
              omega
          have HNQ := (show Hid _ from rfoot_new (x := x) (bv := bv) (fv := fv) hnq)
          clear hnq
          clear hown4 hgrow4 hat4 h3a h3 hx2d hx2 h2d hrb ho3a ho3 hqa HNW hb3 hba hc4 hf4 hc1 hc1' hc1a hc3 hc3' hc3a
          go_wp2
          go_ret2
          exact .inr (.inr ⟨hany, by have := HN.out; omega, _, _, rfl, hfin, hfr, rrows_snoc (Nat.le_trans hs2 hsp.1), HNQ.out⟩))
end
end Go.Proofs.Ytemhhgpgpjiijaa
