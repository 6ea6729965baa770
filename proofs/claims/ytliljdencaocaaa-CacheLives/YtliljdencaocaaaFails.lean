/- Reads that fail: setFails, Fail, Read; a crash that is refused. -/
import Derived.Test.YtliljdencaocaaaCrash
namespace Go.Proofs.Ytliljdencaocaaa
open Go.RowKit Go.Maps

theorem zero3 (w : World) : (zeroValue 3).run Try.prog w = .ok (.int .i64 0) w := by kernel_rfl

theorem filter_one {p q : Nat → Bool} {b : Nat} (h : ∀ x, q x = (p x || x == b)) : ∀ l : List Nat, l.Nodup → (l.filter q).length ≤ (l.filter p).length + 1
  | [], _ => by simp
  | y :: r, hn => by
    have hr := (List.nodup_cons.1 hn).2
    by_cases e : y = b
    · subst e
      have hy := (List.nodup_cons.1 hn).1
      have hf : r.filter q = r.filter p := by
        apply List.filter_congr
        intro z hz
        have : z ≠ y := by rintro rfl; exact hy hz
        simp [h z, this]
      have l1 : ((y :: r).filter q).length ≤ (r.filter p).length + 1 := by
        rw [← hf, List.filter_cons]
        split <;> simp
      have l2 : (r.filter p).length ≤ ((y :: r).filter p).length := by
        rw [List.filter_cons]
        split <;> simp
      omega
    · have ih := filter_one h r hr
      have hq : q y = p y := by simp [h y, e]
      simp only [List.filter_cons, hq]
      cases p y <;> simp <;> omega

theorem miss_del {D : DataW Unit} {N b : Nat} (ht : Tidy D) (h : size D + miss D N ≤ N) : size (D.del (key b)) + miss (D.del (key b)) N ≤ N := by
  have hs := size_del (k := key b) ht
  have hn : ∀ x, (!has (D.del (key b)) (key x)) = ((!has D (key x)) || x == b) := by
    intro x
    by_cases e : x = b
    · subst e
      rw [has_del_same]; simp
    · rw [has_del_other (fun h => e (key_inj h))]; simp [e]
  by_cases hh : has D (key b) = true
  · rw [if_pos hh] at hs
    have := filter_one (q := fun x => !has (D.del (key b)) (key x)) (p := fun x => !has D (key x)) (b := b) hn (List.range N) List.nodup_range
    unfold miss at h ⊢
    omega
  · have e : D.del (key b) = D := del_of_not_has (by simpa using hh)
    rw [e]
    exact h

theorem lit_wf {n : Int} (h : 0 ≤ n ∧ n ≤ 1000) : (Lit.int .i64 n).wf = true := by
  simp [Lit.wf, IntKind.min, IntKind.max, IntKind.signed, IntKind.bits]
  omega

theorem Fls.lookup {w : World} {mb N : Nat} {f : Nat → Int} (h : Fls w mb N f) (hN : N ≤ 2048) (b : Nat) (hb : b < N) :
    (Instr.lookup 40 (.map (some mb)) (.int .i64 (b : Int)) false).run Try.prog w = .ok (.int .i64 (f b)) w := by
  obtain ⟨D, ho, _, hat⟩ := h.ex
  obtain ⟨c, hr, hv, _⟩ := ho.lookup_int keyed3 Try.underlying40 Try.underlying3 (zero3 w) (key_of (b := b) (by omega))
  rw [hat b hb] at hv
  simp only [DataW.lit.injEq, Lit.int.injEq, true_and] at hv
  rw [hr, ← hv]

theorem Fls.update {w : World} {mb N : Nat} {f : Nat → Int} (h : Fls w mb N f) (hN : N ≤ 2048) (b : Nat) (hb : b < N) (t : Int) (ht : 0 ≤ t ∧ t ≤ 1000) :
    ∃ w', (Instr.mapUpdate 40 (.map (some mb)) (.int .i64 (b : Int)) (.int .i64 t)).run Try.prog w = .ok () w' ∧ Fls w' mb N (upd f b t) ∧ w.grownBy w' (some mb) := by
  obtain ⟨D, ho, hm, hat⟩ := h.ex
  obtain ⟨w', hr, ho', hg⟩ := ho.update keyed3 Try.underlying40 (show size D < maxLen by unfold maxLen; omega) (key_of (b := b) (by omega)) (plainElem_int Try.underlying3 (lit_wf ht))
  refine ⟨w', hr, ⟨⟨_, tight ho', miss_put (ho.tidy keyed3) hb _ hm, ?_⟩, ?_⟩, hg⟩
  · intro y hy
    unfold upd
    by_cases e : y = b
    · subst e; rw [if_pos rfl, atKey_put_same ho.isMap (key_is y)]
    · rw [if_neg e, atKey_put_other (fun h => e (key_inj h))]; exact hat y hy
  · intro y; unfold upd; split
    · exact ht
    · exact h.all y

theorem Fls.delete {w : World} {mb N : Nat} {f : Nat → Int} (h : Fls w mb N f) (hN : N ≤ 2048) (b : Nat) (hb : b < N) (ty : TypeId) :
    ∃ w', (Builtin.delete_ #[40, 3] ty #[.map (some mb), .int .i64 (b : Int)]).run Try.prog w = .ok (.tuple #[]) w' ∧ Fls w' mb N (upd f b 0) ∧ w.grownBy w' (some mb) := by
  obtain ⟨D, ho, hm, hat⟩ := h.ex
  obtain ⟨w', hr, ho', hg⟩ := ho.drop keyed3 Try.underlying40 (key_of (b := b) (by omega)) ty
  refine ⟨w', hr, ⟨⟨_, tight ho', miss_del (ho.tidy keyed3) hm, ?_⟩, ?_⟩, hg.grown⟩
  · intro y hy
    unfold upd
    by_cases e : y = b
    · subst e; rw [if_pos rfl, atKey_del_same]
    · rw [if_neg e, atKey_del_other (fun h => e (key_inj h))]; exact hat y hy
  · intro y; unfold upd; split
    · omega
    · exact h.all y

section
variable {B : Nat} {w : World} {a mb fb : Nat} {qv : Value} {S : St}

theorem DI.turnFl (h : DI B w a mb fb qv S) {w' : World} {f' : Nat → Int} (hs : Fls w' fb S.N f') (hg : w.grownBy w' (some fb)) : DI B w' a mb fb qv { S with fl := f' } := by
  obtain ⟨n1, n2, n3, n4, n5⟩ := h.apart
  have ho : ∀ k, k < w.heap.size → k ≠ fb → w'.heap[k]? = w.heap[k]? := fun k hk h1 => hg.block k hk (by simpa using h1)
  exact { row := (ho a (Array.getElem?_eq_some_iff.1 h.row).1 n2).trans h.row, secs := h.secs.kept (ho mb h.secs.lt h.ne), que := ownsRow_kept h.que (fun k hk => ho k (h.que.lt k hk).2 (by rintro rfl; exact n5 hk)), fls := hs, lo := h.lo, ne := h.ne, N1 := h.N1, N2 := h.N2, q64 := h.q64, qok := h.qok, lok := h.lok }

set_option maxRecDepth 10000 in
set_option maxHeartbeats 400000 in
theorem setFails_ok (h : DI B w a mb fb qv S) (b : Nat) (hb : b < S.N) (t : Int) (ht : 0 ≤ t ∧ t ≤ 1000) : Calls Try.prog 61 #[.pointer (some ⟨a, 0, none⟩), .int .i64 (b : Int), .int .i64 t] w fun e w' => (∃ v, e = .returned v) ∧ DI B w' a mb fb qv { S with fl := upd S.fl b t } ∧ Frame (foot a mb fb qv) w w' := by
  have hc := h.c4
  by_cases h0 : t = 0
  · subst h0
    obtain ⟨w', hr, hf, hg⟩ := h.fls.delete h.N2 b hb 0
    have hd := h.turnFl hf hg
    have hfr : Frame (foot a mb fb qv) w w' := frame_of_grown hg (fun k hk => .inr (.inr (.inl (by cases hk; rfl))))
    clear hf hg h
    go_enter Try.func61, Try.ntmps61
    go_wp2
    first | go_end0 | (refine bodyPost_ret (results_none rfl _ _ _) rfl ?_)
    exact ⟨⟨_, rfl⟩, hd, hfr⟩
  · obtain ⟨w', hr, hf, hg⟩ := h.fls.update h.N2 b hb t ht
    have hd := h.turnFl hf hg
    have hfr : Frame (foot a mb fb qv) w w' := frame_of_grown hg (fun k hk => .inr (.inr (.inl (by cases hk; rfl))))
    clear hf hg h
    go_enter Try.func61, Try.ntmps61
    go_wp2
    first | go_end0 | (refine bodyPost_ret (results_none rfl _ _ _) rfl ?_)
    exact ⟨⟨_, rfl⟩, hd, hfr⟩

set_option maxHeartbeats 400000 in
theorem fail_arg (h : DI B w a mb fb qv S) (b t : Int) (hb : ¬ (0 ≤ b ∧ b < S.N) ∨ t < 0 ∨ 1000 < t) : Calls Try.prog 44 #[.pointer (some ⟨a, 0, none⟩), .int .i64 b, .int .i64 t] w fun e w' => e = .returned (.int .i64 1) ∧ w' = w := by
  by_cases hh : 0 ≤ b ∧ b < S.N
  · have ht : t < 0 ∨ 1000 < t := by rcases hb with h' | h'; exact absurd hh h'; exact h'
    obtain ⟨b, rfl⟩ : ∃ n : Nat, b = n := ⟨b.toNat, by omega⟩
    have c := has_true h b (by omega)
    by_cases h0 : t < 0
    · go_enter Try.func44, Try.ntmps44
      go_wp2_with fail
      refine same_at (made_ok h) ?_
      go_wp2_with fail
      refine same_at c ?_
      go_wp2
      go_ret
      exact ⟨rfl, rfl⟩
    · have h1 : 1000 < t := by omega
      go_enter Try.func44, Try.ntmps44
      go_wp2_with fail
      refine same_at (made_ok h) ?_
      go_wp2_with fail
      refine same_at c ?_
      go_wp2
      go_ret
      exact ⟨rfl, rfl⟩
  · have c := has_false h b hh
    go_enter Try.func44, Try.ntmps44
    go_wp2_with fail
    refine same_at (made_ok h) ?_
    go_wp2_with fail
    refine same_at c ?_
    go_wp2
    go_ret
    exact ⟨rfl, rfl⟩

set_option maxHeartbeats 400000 in
theorem fail_ok (h : DI B w a mb fb qv S) (b : Nat) (hb : b < S.N) (t : Int) (ht : 0 ≤ t ∧ t ≤ 1000) : Calls Try.prog 44 #[.pointer (some ⟨a, 0, none⟩), .int .i64 (b : Int), .int .i64 t] w fun e w' => e = .returned (.int .i64 0) ∧ DI B w' a mb fb qv { S with fl := upd S.fl b t } ∧ Frame (foot a mb fb qv) w w' := by
  have c := has_true h b hb
  have h0 : ¬ t < 0 := by omega
  have h1 : ¬ 1000 < t := by omega
  go_enter Try.func44, Try.ntmps44
  go_wp2_with fail
  refine same_at (made_ok h) ?_
  go_wp2_with fail
  refine same_at c ?_
  go_wp2_with fail
  refine (setFails_ok h b hb t ht).mono ?_
  rintro e w1 ⟨⟨v, rfl⟩, hd, hf⟩
  go_wp2
  go_ret
  exact ⟨rfl, hd, hf⟩

set_option maxHeartbeats 400000 in
theorem read_arg (h : DI B w a mb fb qv S) (b : Int) (hb : ¬ (0 ≤ b ∧ b < S.N)) : Calls Try.prog 24 #[.pointer (some ⟨a, 0, none⟩), .int .i64 b] w fun e w' => e = .returned (.tuple #[.slice none 0 0, .int .i64 1]) ∧ w' = w := by
  have c := has_false h b hb
  go_enter Try.func24, Try.ntmps24
  go_wp2_with fail
  refine same_at (made_ok h) ?_
  go_wp2_with fail
  refine same_at c ?_
  go_wp2
  go_ret2
  exact ⟨rfl, rfl⟩

set_option maxHeartbeats 400000 in
theorem read_ok (h : DI B w a mb fb qv S) (b : Nat) (hb : b < S.N) (h0 : S.fl b = 0) : Calls Try.prog 24 #[.pointer (some ⟨a, 0, none⟩), .int .i64 (b : Int)] w fun e w' => ∃ g, e = .returned (.tuple #[.slice (some ⟨g, 0, none⟩) 128 128, .int .i64 0]) ∧ Own w.heap.size w' g 128 128 (S.f b) ∧ Below w.heap.size w w' := by
  have c := has_true h b hb
  have hc := h.c4
  have hl := h.fls.lookup h.N2 b hb
  rw [h0] at hl
  go_enter Try.func24, Try.ntmps24
  go_wp2_with fail
  refine same_at (made_ok h) ?_
  go_wp2_with fail
  refine same_at c ?_
  go_wp2_with fail
  refine (bytesOf_ok h b hb).mono ?_
  rintro e w1 ⟨g, rfl, ho, hb1⟩
  go_wp2
  go_ret2
  exact ⟨g, rfl, ho, hb1⟩

set_option maxHeartbeats 400000 in
theorem read_fails (h : DI B w a mb fb qv S) (b : Nat) (hb : b < S.N) (h0 : 0 < S.fl b) : Calls Try.prog 24 #[.pointer (some ⟨a, 0, none⟩), .int .i64 (b : Int)] w fun e w' => e = .returned (.tuple #[.slice none 0 0, .int .i64 4]) ∧ DI B w' a mb fb qv { S with fl := upd S.fl b (S.fl b - 1) } ∧ Frame (foot a mb fb qv) w w' := by
  have c := has_true h b hb
  have hc := h.c4
  have hl := h.fls.lookup h.N2 b hb
  have ha := h.fls.all b
  have hs := setFails_ok h b hb (S.fl b - 1) (by omega)
  generalize S.fl b = t at h0 hl ha hs
  have hw : IntKind.i64.wrap (t - 1) = t - 1 := by rw [IntKind.wrap_i64]; omega
  have HS := (show Hid _ from hs)
  clear hs
  go_enter Try.func24, Try.ntmps24
  go_wp2_with fail
  refine same_at (made_ok h) ?_
  go_wp2_with fail
  refine same_at c ?_
  go_wp2_with fail
  refine Calls.mono HS.out ?_
  rintro e w1 ⟨⟨v, rfl⟩, hd, hf⟩
  go_wp2
  go_ret2
  exact ⟨rfl, hd, hf⟩

end
end Go.Proofs.Ytliljdencaocaaa
