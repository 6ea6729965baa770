/- Fails Bmap Keys -/
import Derived.Test.YtjecicjpplibaaaGreatNw08
import Derived.Shelf.SlIterI.Stops
import Derived.RangeFuncNested
import Derived.RangeFuncBound
import Derived.RangeFuncCalls
import Derived.RangeFuncLeaves
import Derived.RangeFuncBox
import Derived.Shelf.Abstract
import Derived.Shelf.RegionOpen
import Derived.OwnWalkIn
import Derived.TacticsInMore
import Derived.LoopNIn
import Derived.LoopIn

/- Reads that fail: setFails, Fail, Read; a crash that is refused. -/
namespace Go.Proofs.YtjecicjpplibaaaGreat
open Go.RowKit Go.Maps
set_option maxRecDepth 100000

theorem zero3 (w : World) : (zeroValue 3).run Tryz.prog w = .ok (.int .i64 0) w := by kernel_rfl

theorem filter_one {p q : Nat → Bool} {b : Nat} (h : ∀ x, q x = (p x || x == b)) : ∀ l : List Nat, l.Nodup → (l.filter q).length ≤ (l.filter p).length + 1
  | [], _ => by simp
  | y :: r, hn => by
    have hr := (List.nodup_cons.1 hn).2
    by_cases e : y = b
    · subst e
      have hy := (List.nodup_cons.1 hn).1
      have hf : r.filter q = r.filter p := by
        apply List.filter_congr
        intro z hz
        have : z ≠ y := by rintro rfl; exact hy hz
        simp [h z, this]
      have l1 : ((y :: r).filter q).length ≤ (r.filter p).length + 1 := by
        rw [← hf, List.filter_cons]
        split <;> simp
      have l2 : (r.filter p).length ≤ ((y :: r).filter p).length := by
        rw [List.filter_cons]
        split <;> simp
      omega
    · have ih := filter_one h r hr
      have hq : q y = p y := by simp [h y, e]
      simp only [List.filter_cons, hq]
      cases p y <;> simp <;> omega

theorem miss_del {D : DataW Unit} {N b : Nat} (ht : Tidy D) (h : size D + miss D N ≤ N) : size (D.del (key b)) + miss (D.del (key b)) N ≤ N := by
  have hs := size_del (k := key b) ht
  have hn : ∀ x, (!has (D.del (key b)) (key x)) = ((!has D (key x)) || x == b) := by
    intro x
    by_cases e : x = b
    · subst e
      rw [has_del_same]; simp
    · rw [has_del_other (fun h => e (key_inj h))]; simp [e]
  by_cases hh : has D (key b) = true
  · rw [if_pos hh] at hs
    have := filter_one (q := fun x => !has (D.del (key b)) (key x)) (p := fun x => !has D (key x)) (b := b) hn (List.range N) List.nodup_range
    unfold miss at h ⊢
    omega
  · have e : D.del (key b) = D := del_of_not_has (by simpa using hh)
    rw [e]
    exact h

theorem lit_wf {n : Int} (h : 0 ≤ n ∧ n ≤ 1000) : (Lit.int .i64 n).wf = true := by
  simp [Lit.wf, IntKind.min, IntKind.max, IntKind.signed, IntKind.bits]
  omega

theorem Fls.lookup {w : World} {mb N : Nat} {f : Nat → Int} (h : Fls w mb N f) (hN : N ≤ 2048) (b : Nat) (hb : b < N) :
    (Instr.lookup 82 (.map (some mb)) (.int .i64 (b : Int)) false).run Tryz.prog w = .ok (.int .i64 (f b)) w := by
  obtain ⟨D, ho, _, hat⟩ := h.ex
  obtain ⟨c, hr, hv, _⟩ := ho.lookup_int keyed3 Tryz.underlying82 Tryz.underlying3 (zero3 w) (key_of (b := b) (by omega))
  rw [hat b hb] at hv
  simp only [DataW.lit.injEq, Lit.int.injEq, true_and] at hv
  rw [hr, ← hv]

theorem Fls.update {w : World} {mb N : Nat} {f : Nat → Int} (h : Fls w mb N f) (hN : N ≤ 2048) (b : Nat) (hb : b < N) (t : Int) (ht : 0 ≤ t ∧ t ≤ 1000) :
    ∃ w', (Instr.mapUpdate 82 (.map (some mb)) (.int .i64 (b : Int)) (.int .i64 t)).run Tryz.prog w = .ok () w' ∧ Fls w' mb N (upd f b t) ∧ w.grownBy w' (some mb) := by
  obtain ⟨D, ho, hm, hat⟩ := h.ex
  obtain ⟨w', hr, ho', hg⟩ := ho.update keyed3 Tryz.underlying82 (show size D < maxLen by unfold maxLen; omega) (key_of (b := b) (by omega)) (plainElem_int Tryz.underlying3 (lit_wf ht))
  refine ⟨w', hr, ⟨⟨_, tight ho', miss_put (ho.tidy keyed3) hb _ hm, ?_⟩, ?_⟩, hg⟩
  · intro y hy
    unfold upd
    by_cases e : y = b
    · subst e; rw [if_pos rfl, atKey_put_same ho.isMap (key_is y)]
    · rw [if_neg e, atKey_put_other (fun h => e (key_inj h))]; exact hat y hy
  · intro y; unfold upd; split
    · exact ht
    · exact h.all y

theorem Fls.delete {w : World} {mb N : Nat} {f : Nat → Int} (h : Fls w mb N f) (hN : N ≤ 2048) (b : Nat) (hb : b < N) (ty : TypeId) :
    ∃ w', (Builtin.delete_ #[82, 3] ty #[.map (some mb), .int .i64 (b : Int)]).run Tryz.prog w = .ok (.tuple #[]) w' ∧ Fls w' mb N (upd f b 0) ∧ w.grownBy w' (some mb) := by
  obtain ⟨D, ho, hm, hat⟩ := h.ex
  obtain ⟨w', hr, ho', hg⟩ := ho.drop keyed3 Tryz.underlying82 (key_of (b := b) (by omega)) ty
  refine ⟨w', hr, ⟨⟨_, tight ho', miss_del (ho.tidy keyed3) hm, ?_⟩, ?_⟩, hg.grown⟩
  · intro y hy
    unfold upd
    by_cases e : y = b
    · subst e; rw [if_pos rfl, atKey_del_same]
    · rw [if_neg e, atKey_del_other (fun h => e (key_inj h))]; exact hat y hy
  · intro y; unfold upd; split
    · omega
    · exact h.all y

section
variable {B : Nat} {w : World} {a mb fb : Nat} {qv : Value} {S : St}

theorem DI.turnFl (h : DI B w a mb fb qv S) {w' : World} {f' : Nat → Int} (hs : Fls w' fb S.N f') (hg : w.grownBy w' (some fb)) : DI B w' a mb fb qv { S with fl := f' } := by
  obtain ⟨n1, n2, n3, n4, n5⟩ := h.apart
  have ho : ∀ k, k < w.heap.size → k ≠ fb → w'.heap[k]? = w.heap[k]? := fun k hk h1 => hg.block k hk (by simpa using h1)
  exact { row := (ho a (Array.getElem?_eq_some_iff.1 h.row).1 n2).trans h.row, secs := h.secs.kept (ho mb h.secs.lt h.ne), que := ownsRow_kept h.que (fun k hk => ho k (h.que.lt k hk).2 (by rintro rfl; exact n5 hk)), fls := hs, lo := h.lo, ne := h.ne, N1 := h.N1, N2 := h.N2, q64 := h.q64, qok := h.qok, lok := h.lok }

set_option maxRecDepth 10000 in
set_option maxHeartbeats 400000 in
theorem setFails_ok (h : DI B w a mb fb qv S) (b : Nat) (hb : b < S.N) (t : Int) (ht : 0 ≤ t ∧ t ≤ 1000) : Calls Tryz.prog 173 #[.pointer (some ⟨a, 0, none⟩), .int .i64 (b : Int), .int .i64 t] w fun e w' => (∃ v, e = .returned v) ∧ DI B w' a mb fb qv { S with fl := upd S.fl b t } ∧ Frame (foot a mb fb qv) w w' := by
  have hc := h.c4
  by_cases h0 : t = 0
  · subst h0
    obtain ⟨w', hr, hf, hg⟩ := h.fls.delete h.N2 b hb 0
    have hd := h.turnFl hf hg
    have hfr : Frame (foot a mb fb qv) w w' := frame_of_grown hg (fun k hk => .inr (.inr (.inl (by cases hk; rfl))))
    clear hf hg h
    go_enter Tryz.func173, Tryz.ntmps173
    go_wp2
    first | go_end0 | (refine bodyPost_ret (results_none rfl _ _ _) rfl ?_)
    exact ⟨⟨_, rfl⟩, hd, hfr⟩
  · obtain ⟨w', hr, hf, hg⟩ := h.fls.update h.N2 b hb t ht
    have hd := h.turnFl hf hg
    have hfr : Frame (foot a mb fb qv) w w' := frame_of_grown hg (fun k hk => .inr (.inr (.inl (by cases hk; rfl))))
    clear hf hg h
    go_enter Tryz.func173, Tryz.ntmps173
    go_wp2
    first | go_end0 | (refine bodyPost_ret (results_none rfl _ _ _) rfl ?_)
    exact ⟨⟨_, rfl⟩, hd, hfr⟩

set_option maxHeartbeats 400000 in
theorem read_arg (h : DI B w a mb fb qv S) (b : Int) (hb : ¬ (0 ≤ b ∧ b < S.N)) : Calls Tryz.prog 158 #[.pointer (some ⟨a, 0, none⟩), .int .i64 b] w fun e w' => e = .returned (.tuple #[.slice none 0 0, .int .i64 1]) ∧ w' = w := by
  have c := has_false h b hb
  go_enter Tryz.func158, Tryz.ntmps158
  go_wp2_with fail
  refine same_at (made_ok h) ?_
  go_wp2_with fail
  refine same_at c ?_
  go_wp2
  go_ret2
  exact ⟨rfl, rfl⟩

set_option maxHeartbeats 400000 in
theorem read_ok (h : DI B w a mb fb qv S) (b : Nat) (hb : b < S.N) (h0 : S.fl b = 0) : Calls Tryz.prog 158 #[.pointer (some ⟨a, 0, none⟩), .int .i64 (b : Int)] w fun e w' => ∃ g, e = .returned (.tuple #[.slice (some ⟨g, 0, none⟩) 128 128, .int .i64 0]) ∧ Own w.heap.size w' g 128 128 (S.f b) ∧ Below w.heap.size w w' := by
  have c := has_true h b hb
  have hc := h.c4
  have hl := h.fls.lookup h.N2 b hb
  rw [h0] at hl
  go_enter Tryz.func158, Tryz.ntmps158
  go_wp2_with fail
  refine same_at (made_ok h) ?_
  go_wp2_with fail
  refine same_at c ?_
  go_wp2_with fail
  refine (bytesOf_ok h b hb).mono ?_
  rintro e w1 ⟨g, rfl, ho, hb1⟩
  go_wp2
  go_ret2
  exact ⟨g, rfl, ho, hb1⟩

set_option maxHeartbeats 400000 in
theorem read_fails (h : DI B w a mb fb qv S) (b : Nat) (hb : b < S.N) (h0 : 0 < S.fl b) : Calls Tryz.prog 158 #[.pointer (some ⟨a, 0, none⟩), .int .i64 (b : Int)] w fun e w' => e = .returned (.tuple #[.slice none 0 0, .int .i64 4]) ∧ DI B w' a mb fb qv { S with fl := upd S.fl b (S.fl b - 1) } ∧ Frame (foot a mb fb qv) w w' := by
  have c := has_true h b hb
  have hc := h.c4
  have hl := h.fls.lookup h.N2 b hb
  have ha := h.fls.all b
  have hs := setFails_ok h b hb (S.fl b - 1) (by omega)
  generalize S.fl b = t at h0 hl ha hs
  have hw : IntKind.i64.wrap (t - 1) = t - 1 := by rw [IntKind.wrap_i64]; omega
  have HS := (show Hid _ from hs)
  clear hs
  go_enter Tryz.func158, Tryz.ntmps158
  go_wp2_with fail
  refine same_at (made_ok h) ?_
  go_wp2_with fail
  refine same_at c ?_
  go_wp2_with fail
  refine Calls.mono HS.out ?_
  rintro e w1 ⟨⟨v, rfl⟩, hd, hf⟩
  go_wp2
  go_ret2
  exact ⟨rfl, hd, hf⟩

end
end Go.Proofs.YtjecicjpplibaaaGreat

/- The map of a cache's buffers: which blocks have one, and where it lies. -/
namespace Go.Proofs.YtjecicjpplibaaaGreat
open Go.RowKit Go.Maps
set_option maxRecDepth 100000
set_option linter.unusedVariables false

def adr (g : Nat) : DataW Unit := .lit (.int .i64 (g : Int))
def nilD : DataW Unit := .lit (.bool false)
def ptrR : Value → Option (DataW Unit × List MemPlace)
  | .pointer none => some (nilD, [])
  | .pointer (some ⟨g, 0, none⟩) => some (adr g, [])
  | _ => none
theorem ptrR_nil : ptrR (.pointer none) = some (nilD, []) := rfl
theorem ptrR_mk (g : Nat) : ptrR (.pointer (some ⟨g, 0, none⟩)) = some (adr g, []) := rfl
theorem ptrR_inv {v : Value} {g : Nat} {ps : List MemPlace} (h : ptrR v = some (adr g, ps)) : v = .pointer (some ⟨g, 0, none⟩) := by
  unfold ptrR at h
  split at h
  · simp [nilD, adr] at h
  · rename_i g'
    simp [adr] at h
    obtain rfl : g' = g := by omega
    rfl
  · cases h
theorem ptrR_inv0 {v : Value} {ps : List MemPlace} (h : ptrR v = some (nilD, ps)) : v = .pointer none := by
  unfold ptrR at h
  split at h
  · rfl
  · simp [nilD, adr] at h
  · cases h
theorem zero86p (w : World) : (zeroValue 156).run Tryz.prog w = .ok (.pointer none) w := by kernel_rfl

/-- Block mb is a map that leads from the blocks of M to where their buffers lie. -/
structure Bm (w : World) (mb : Nat) (M : List (Nat × Nat)) : Prop where
  ex : ∃ D, w.ownsMap Tryz.prog 3 ptrR mb (size D) D ∧ size D = M.length ∧ (∀ x, has D x = true → ∃ p ∈ M, x = key p.1) ∧ ∀ p ∈ M, has D (key p.1) = true ∧ D.atKey (key p.1) nilD = adr p.2
  nd : (M.map (·.1)).Nodup
  sm : M.length ≤ 2048

theorem bm_made (w : World) : Bm (w.alloc (.map #[] 0)) w.heap.size [] :=
  ⟨⟨.map [], w.ownsMap_made _ _ _, rfl, fun x h => by simp [has] at h, fun p hp => by cases hp⟩, List.nodup_nil, by simp⟩

theorem Bm.lt {w : World} {mb : Nat} {M : List (Nat × Nat)} (h : Bm w mb M) : mb < w.heap.size := by
  obtain ⟨D, ho, _⟩ := h.ex
  exact ho.lt
theorem Bm.kept {w w' : World} {mb : Nat} {M : List (Nat × Nat)} (h : Bm w mb M) (hb : w'.heap[mb]? = w.heap[mb]?) : Bm w' mb M := by
  obtain ⟨D, ⟨es, c, ho, r⟩, k⟩ := h.ex
  exact ⟨⟨D, ⟨es, c, hb.trans ho, r⟩, k⟩, h.nd, h.sm⟩

theorem Bm.hit {w : World} {mb : Nat} {M : List (Nat × Nat)} (h : Bm w mb M) (p : Nat × Nat) (hp : p ∈ M) (hb : p.1 < 9223372036854775808) :
    (Instr.lookup 138 (.map (some mb)) (.int .i64 (p.1 : Int)) false).run Tryz.prog w = .ok (.pointer (some ⟨p.2, 0, none⟩)) w := by
  obtain ⟨D, ho, _, _, hat⟩ := h.ex
  obtain ⟨v, ps, hr, hv⟩ := ho.lookup keyed3 Tryz.underlying138 (zero86p w) ptrR_nil (key_of (b := p.1) hb)
  rw [(hat p hp).2] at hv
  rw [hr, ptrR_inv hv]

theorem Bm.miss {w : World} {mb : Nat} {M : List (Nat × Nat)} (h : Bm w mb M) (b : Nat) (hp : ∀ p ∈ M, ¬ p.1 = b) (hb : b < 9223372036854775808) :
    (Instr.lookup 138 (.map (some mb)) (.int .i64 (b : Int)) false).run Tryz.prog w = .ok (.pointer none) w := by
  obtain ⟨D, ho, _, hk, hat⟩ := h.ex
  obtain ⟨v, ps, hr, hv⟩ := ho.lookup keyed3 Tryz.underlying138 (zero86p w) ptrR_nil (key_of (b := b) hb)
  have hn : has D (key b) = false := by
    cases e : has D (key b) with
    | false => rfl
    | true =>
      obtain ⟨p, hm, e'⟩ := hk _ e
      exact absurd (key_inj e').symm (hp p hm)
  rw [atKey_of_not_has hn] at hv
  rw [hr, ptrR_inv0 hv]

theorem Bm.update {w : World} {mb : Nat} {M : List (Nat × Nat)} (h : Bm w mb M) (b g : Nat) (hp : ∀ p ∈ M, ¬ p.1 = b) (hb : b < 9223372036854775808) (hl : M.length < 2048) :
    ∃ w', (Instr.mapUpdate 138 (.map (some mb)) (.int .i64 (b : Int)) (.pointer (some ⟨g, 0, none⟩))).run Tryz.prog w = .ok () w' ∧ Bm w' mb (M ++ [(b, g)]) ∧ w.grownBy w' (some mb) := by
  obtain ⟨D, ho, hs, hk, hat⟩ := h.ex
  obtain ⟨w', hr, ho', hg⟩ := ho.update keyed3 Tryz.underlying138 (show size D < maxLen by unfold maxLen; omega) (key_of (b := b) hb) (ptrR_mk g)
  have hn : has D (key b) = false := by
    cases e : has D (key b) with
    | false => rfl
    | true =>
      obtain ⟨p, hm, e'⟩ := hk _ e
      exact absurd (key_inj e').symm (hp p hm)
  refine ⟨w', hr, ⟨⟨_, tight ho', ?_, ?_, ?_⟩, ?_, ?_⟩, hg⟩
  · rw [size_put (ho.tidy keyed3), hn]; simp; omega
  · intro x hx
    by_cases e : x = key b
    · exact ⟨(b, g), by simp, e⟩
    · rw [has_put_other e] at hx
      obtain ⟨p, hm, e'⟩ := hk x hx
      exact ⟨p, by simp [hm], e'⟩
  · intro p hm
    rcases List.mem_append.1 hm with hm | hm
    · have e : key p.1 ≠ key b := fun e => hp p hm (key_inj e)
      rw [has_put_other e, atKey_put_other e]
      exact hat p hm
    · simp at hm
      subst hm
      exact ⟨has_put_same ho.isMap (key_is b) _, atKey_put_same ho.isMap (key_is b) _ _⟩
  · rw [List.map_append, List.nodup_append]
    refine ⟨h.nd, by simp, ?_⟩
    intro a ha c hc e
    simp at hc
    obtain ⟨p, hm, rfl⟩ := List.mem_map.1 ha
    exact hp p hm (by omega)
  · simp; omega

theorem filter_miss {M : List (Nat × Nat)} {b : Nat} (h : ∀ p ∈ M, ¬ p.1 = b) : M.filter (fun p => !(p.1 == b)) = M := by
  rw [List.filter_eq_self]
  intro p hp
  simpa using h p hp
theorem filter_hit {M : List (Nat × Nat)} (hd : (M.map (·.1)).Nodup) {p : Nat × Nat} (hp : p ∈ M) : (M.filter (fun q => !(q.1 == p.1))).length + 1 = M.length := by
  induction M with
  | nil => cases hp
  | cons q M ih =>
    rw [List.map_cons, List.nodup_cons] at hd
    by_cases e : q.1 = p.1
    · have hno : ∀ r ∈ M, ¬ r.1 = p.1 := fun r hm e2 => hd.1 (List.mem_map.2 ⟨r, hm, by rw [e2, e]⟩)
      rw [List.filter_cons, filter_miss hno]
      simp [e]
    · have hp' : p ∈ M := by
        rcases List.mem_cons.1 hp with h | h
        · subst h; exact absurd rfl e
        · exact h
      have ih := ih hd.2 hp'
      rw [List.filter_cons]
      have hb : (!(q.1 == p.1)) = true := by simpa using e
      rw [if_pos hb, List.length_cons, List.length_cons]
      omega

open Classical in
theorem Bm.delete {w : World} {mb : Nat} {M : List (Nat × Nat)} (h : Bm w mb M) (b : Nat) (hb : b < 9223372036854775808) (ty : TypeId) :
    ∃ w', (Builtin.delete_ #[138, 3] ty #[.map (some mb), .int .i64 (b : Int)]).run Tryz.prog w = .ok (.tuple #[]) w' ∧ Bm w' mb (M.filter (fun p => !(p.1 == b))) ∧ w.grownBy w' (some mb) := by
  obtain ⟨D, ho, hs, hk, hat⟩ := h.ex
  obtain ⟨w', hr, ho', hg⟩ := ho.drop keyed3 Tryz.underlying138 (key_of (b := b) hb) ty
  refine ⟨w', hr, ⟨⟨_, tight ho', ?_, ?_, ?_⟩, ?_, ?_⟩, hg.grown⟩
  · have hsz := size_del (k := key b) (ho.tidy keyed3)
    by_cases e : ∃ p ∈ M, p.1 = b
    · obtain ⟨p, hm, rfl⟩ := e
      rw [if_pos (hat p hm).1] at hsz
      have hfl := filter_hit h.nd hm
      omega
    · have hn : ¬ has D (key b) = true := fun hh => by
        obtain ⟨p, hm, e'⟩ := hk _ hh
        exact e ⟨p, hm, (key_inj e').symm⟩
      rw [if_neg hn] at hsz
      rw [filter_miss (fun p hm e2 => e ⟨p, hm, e2⟩)]
      omega
  · intro x hx
    by_cases e : x = key b
    · subst e
      rw [has_del_same] at hx
      cases hx
    · rw [has_del_other e] at hx
      obtain ⟨p, hm, e'⟩ := hk x hx
      refine ⟨p, List.mem_filter.2 ⟨hm, ?_⟩, e'⟩
      have : ¬ p.1 = b := fun e2 => e (by rw [e', e2])
      simpa using this
  · intro p hm
    obtain ⟨hm, hne⟩ := List.mem_filter.1 hm
    have e : key p.1 ≠ key b := fun e => by
      have := key_inj e
      simp [this] at hne
    rw [has_del_other e, atKey_del_other e]
    exact hat p hm
  · exact List.Nodup.sublist ((List.filter_sublist).map _) h.nd
  · have := List.length_filter_le (fun p : Nat × Nat => !(p.1 == b)) M
    have := h.sm
    omega
end Go.Proofs.YtjecicjpplibaaaGreat

/- A map's keys, collected. -/
namespace Go.Proofs.YtjecicjpplibaaaGreat
open Go.RowKit Go.Shelf Go.Maps Go.Sort
set_option maxRecDepth 100000
set_option linter.unusedVariables false
attribute [local go_sem] Oper.semAt_some

set_option maxRecDepth 100000 in
set_option maxHeartbeats 1000000 in
theorem keys1_in {H : Type} (n : Nat) (hn : 1 ≤ n) (l Bm b nn : Nat) (D0 : DataW H) {R : Value → Option (DataW H × List MemPlace)} (J Jx : List Int → World → Prop)
    (hY : ∀ pre x W, J pre W → pre.length < Maps.size D0 → YieldAt Fence.wide (n - 1) Tryz.prog l #[encZ x] W fun e W' =>
      (e = .returned (.bool true) ∧ J (pre ++ [x]) W' ∧ KeepsWalks W W') ∨ (e = .returned (.bool false) ∧ Jx (pre ++ [x]) W'))
    (W : World) (hJ : AbidesFrom W.heap.size J) (hm : W.cell? ⟨Bm, 0, none⟩ = some (.map (some b))) (hown : W.ownsMap Tryz.prog 3 R b nn D0) (h0 : J [] W) :
    CallsIn Fence.wide n Tryz.prog 186 #[.func (.yield l) #[] #[], .pointer (some ⟨Bm, 0, none⟩)] W fun e W' => (∃ v, e = .returned v) ∧
      ((∃ ss : List Int, (ss.Nodup ∧ ss.length ≤ Maps.size D0 ∧ ∀ x, x ∈ ss ↔ has D0 (.int .i64 x) = true) ∧ J ss W') ∨ (∃ pre : List Int, True ∧ Jx pre W')) := by
  refine callsIn_of_wp Tryz.func186 rfl trivial ?_ rfl
  simp only [Tryz.ntmps186, List.size_toArray, List.length_cons, List.length_nil, Nat.reduceAdd, Nat.reduceSub, Array.replicate_succ, Array.replicate_zero, List.push_toArray, List.append_toArray, List.nil_append, List.cons_append]
  gi_wp2_with (first
    | (gi_at_range; refine wpListIn_range_own _ rfl _ 138 rfl 3 156 keyed3 Tryz.underlying138 _ b nn _ rfl hown ?_; intro w0 hrg0 hg0 hs0))
  go_frame
  gi_loopw [3] (fun _ wr => ∃ (left : Lit → Bool) (cnt : Nat) (ss : List Int), wr.ranges Tryz.prog 3 R b W.heap.size nn D0 left cnt ∧ ss.length + cnt ≤ Maps.size D0 ∧ CollectedI D0 left ss ∧ J ss wr)
    (fun _ wr => wr.rangeLeft b W.heap.size)
  case atStart =>
    exact ⟨_, _, [], hrg0, by simp, CollectedI.start D0, hJ [] W w0 none h0 hg0 (fun r e => by cases e)⟩
  case round =>
    obtain ⟨left, cnt, ss, hrg, hcs, hC, hJs⟩ := hrel
    gi_wp2_with (first
      | (gi_at_next; refine wpListIn_next_ranges _ rfl _ rfl 3 keyed3 R encZ id (fun key kl hk => by obtain ⟨x, hx, _⟩ := Maps.keyOf_i64 Tryz.underlying3 hk; exact ⟨x, hx⟩) (fun v _ _ => ⟨v, rfl⟩) b W.heap.size nn _ _ _ rfl hrg ?_ ?_))
    · intro hc0 hl0
      gi_wp2
      go_end0
      exact ⟨⟨_, rfl⟩, .inl ⟨ss, ⟨hC.1, by omega, fun x => by rw [hC.2 x, hl0]; simp⟩, hJs⟩⟩
    · intro x c kl yd yp w2 cnt2 hkey hlk hv hat hrg2 hlt hg2 hs2 hen
      obtain ⟨x', ex, rfl, _⟩ := Maps.keyOf_i64 Tryz.underlying3 hkey
      obtain rfl : x = x' := encZ_inj ex
      have hJ2 : J ss w2 := hJ ss wr w2 (some W.heap.size) hJs hg2 (fun r e => by cases e; exact ⟨Nat.le_refl _, hrg.iter_walk⟩)
      obtain ⟨fn, tmps, assign, body, hy, hR⟩ := hY ss x w2 hJ2 (by omega)
      clear hs2
      gi_wp2
      refine hR.mono ?_
      have hC2 := hC.step hlk hat
      rintro e W3 (⟨rfl, hJ3, hk3⟩ | ⟨rfl, hJx3⟩)
      · gi_wp2
        have hrg3 := hrg2.of_walks hk3
        go_roundw
        case rel => exact ⟨_, cnt2, ss ++ [x], hrg3, by simp; omega, hC2, hJ3⟩
        case measure => rw [hrg3.left_eq, hrg.left_eq]; exact hlt
      · gi_wp2
        refine bodyPost_ret (results_none rfl _ _ _) rfl ?_
        exact ⟨⟨_, rfl⟩, .inr ⟨_, trivial, hJx3⟩⟩
end Go.Proofs.YtjecicjpplibaaaGreat
