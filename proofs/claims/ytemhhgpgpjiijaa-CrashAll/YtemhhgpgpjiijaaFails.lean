/- Reads that fail: setFails, Fail, Read; a crash that is refused. -/
import Derived.Test.YtemhhgpgpjiijaaCrash
namespace Go.Proofs.Ytemhhgpgpjiijaa
open Go.RowKit Go.Maps

theorem zero3 (w : World) : (zeroValue 3).run Try.prog w = .ok (.int .i64 0) w := by kernel_rfl

theorem filter_one {p q : Nat → Bool} {b : Nat} (h : ∀ x, q x = (p x || x == b)) : ∀ l : List Nat, l.Nodup → (l.filter q).length ≤ (l.filter p).length + 1
  | [], _ => by simp
  | y :: r, hn => by
    have hr := (List.nodup_cons.1 hn).2
    by_cases e : y = b
    · subst e
      have hy := (List.nodup_cons.1 hn).1
      have hf : r.filter q = r.filter p := by
        apply List.filter_congr
        intro z hz
        have : z ≠ y := by rintro rfl; exact hy hz
        simp [h z, this]
      have l1 : ((y :: r).filter q).length ≤ (r.filter p).length + 1 := by
        rw [← hf, List.filter_cons]
        split <;> simp
      have l2 : (r.filter p).length ≤ ((y :: r).filter p).length := by
        rw [List.filter_cons]
        split <;> simp
      omega
    · have ih := filter_one h r hr
      have hq : q y = p y := by simp [h y, e]
      simp only [List.filter_cons, hq]
      cases p y <;> simp <;> omega

theorem miss_del {D : DataW Unit} {N b : Nat} (ht : Tidy D) (h : size D + miss D N ≤ N) : size (D.del (key b)) + miss (D.del (key b)) N ≤ N := by
  have hs := size_del (k := key b) ht
  have hn : ∀ x, (!has (D.del (key b)) (key x)) = ((!has D (key x)) || x == b) := by
    intro x
    by_cases e : x = b
    · subst e
      rw [has_del_same]; simp
    · rw [has_del_other (fun h => e (key_inj h))]; simp [e]
  by_cases hh : has D (key b) = true
  · rw [if_pos hh] at hs
    have := filter_one (q := fun x => !has (D.del (key b)) (key x)) (p := fun x => !has D (key x)) (b := b) hn (List.range N) List.nodup_range
    unfold miss at h ⊢
    omega
  · have e : D.del (key b) = D := del_of_not_has (by simpa using hh)
    rw [e]
    exact h

theorem lit_wf {n : Int} (h : 0 ≤ n ∧ n ≤ 1000) : (Lit.int .i64 n).wf = true := by
  simp [Lit.wf, IntKind.min, IntKind.max, IntKind.signed, IntKind.bits]
  omega

theorem Fls.lookup {w : World} {mb N : Nat} {f : Nat → Int} (h : Fls w mb N f) (hN : N ≤ 2048) (b : Nat) (hb : b < N) :
    (Instr.lookup 65 (.map (some mb)) (.int .i64 (b : Int)) false).run Try.prog w = .ok (.int .i64 (f b)) w := by
  obtain ⟨D, ho, _, hat⟩ := h.ex
  obtain ⟨c, hr, hv, _⟩ := ho.lookup_int keyed3 Try.underlying65 Try.underlying3 (zero3 w) (key_of (b := b) (by omega))
  rw [hat b hb] at hv
  simp only [DataW.lit.injEq, Lit.int.injEq, true_and] at hv
  rw [hr, ← hv]

theorem Fls.update {w : World} {mb N : Nat} {f : Nat → Int} (h : Fls w mb N f) (hN : N ≤ 2048) (b : Nat) (hb : b < N) (t : Int) (ht : 0 ≤ t ∧ t ≤ 1000) :
    ∃ w', (Instr.mapUpdate 65 (.map (some mb)) (.int .i64 (b : Int)) (.int .i64 t)).run Try.prog w = .ok () w' ∧ Fls w' mb N (upd f b t) ∧ w.grownBy w' (some mb) := by
  obtain ⟨D, ho, hm, hat⟩ := h.ex
  obtain ⟨w', hr, ho', hg⟩ := ho.update keyed3 Try.underlying65 (show size D < maxLen by unfold maxLen; omega) (key_of (b := b) (by omega)) (plainElem_int Try.underlying3 (lit_wf ht))
  refine ⟨w', hr, ⟨⟨_, tight ho', miss_put (ho.tidy keyed3) hb _ hm, ?_⟩, ?_⟩, hg⟩
  · intro y hy
    unfold upd
    by_cases e : y = b
    · subst e; rw [if_pos rfl, atKey_put_same ho.isMap (key_is y)]
    · rw [if_neg e, atKey_put_other (fun h => e (key_inj h))]; exact hat y hy
  · intro y; unfold upd; split
    · exact ht
    · exact h.all y

theorem Fls.delete {w : World} {mb N : Nat} {f : Nat → Int} (h : Fls w mb N f) (hN : N ≤ 2048) (b : Nat) (hb : b < N) (ty : TypeId) :
    ∃ w', (Builtin.delete_ #[65, 3] ty #[.map (some mb), .int .i64 (b : Int)]).run Try.prog w = .ok (.tuple #[]) w' ∧ Fls w' mb N (upd f b 0) ∧ w.grownBy w' (some mb) := by
  obtain ⟨D, ho, hm, hat⟩ := h.ex
  obtain ⟨w', hr, ho', hg⟩ := ho.drop keyed3 Try.underlying65 (key_of (b := b) (by omega)) ty
  refine ⟨w', hr, ⟨⟨_, tight ho', miss_del (ho.tidy keyed3) hm, ?_⟩, ?_⟩, hg.grown⟩
  · intro y hy
    unfold upd
    by_cases e : y = b
    · subst e; rw [if_pos rfl, atKey_del_same]
    · rw [if_neg e, atKey_del_other (fun h => e (key_inj h))]; exact hat y hy
  · intro y; unfold upd; split
    · omega
    · exact h.all y

section
variable {B : Nat} {w : World} {a mb fb : Nat} {qv : Value} {S : St}

theorem DI.turnFl (h : DI B w a mb fb qv S) {w' : World} {f' : Nat → Int} (hs : Fls w' fb S.N f') (hg : w.grownBy w' (some fb)) : DI B w' a mb fb qv { S with fl := f' } := by
  obtain ⟨n1, n2, n3, n4, n5⟩ := h.apart
  have ho : ∀ k, k < w.heap.size → k ≠ fb → w'.heap[k]? = w.heap[k]? := fun k hk h1 => hg.block k hk (by simpa using h1)
  exact { row := (ho a (Array.getElem?_eq_some_iff.1 h.row).1 n2).trans h.row, secs := h.secs.kept (ho mb h.secs.lt h.ne), que := ownsRow_kept h.que (fun k hk => ho k (h.que.lt k hk).2 (by rintro rfl; exact n5 hk)), fls := hs, lo := h.lo, ne := h.ne, N1 := h.N1, N2 := h.N2, q64 := h.q64, qok := h.qok, lok := h.lok }

set_option maxRecDepth 10000 in
set_option maxHeartbeats 1000000 in
theorem crash_none (h : DI B w a mb fb qv S) (p : Option Addr) (n c : Nat) (ids : List Int) (hI : II w p n ids) (hno : ∃ id ∈ ids, S.q.findIdx? (fun y => y.id == id) = none) :
    Calls Try.prog 10 #[.pointer (some ⟨a, 0, none⟩), .slice p n c] w fun e w' => e = .returned (.int .i64 20) ∧ Below w.heap.size w w' := by
  have hbig := hI.big
  have hlen := hI.len
  go_enter Try.func10, Try.ntmps10
  go_wp2_with fail
  refine same_at (made_ok h) ?_
  go_wp2_with fail
  go_loopw [15] (fun i wr => ∃ j : Nat, j ≤ n ∧ i = .int .i64 (j : Int) ∧ Below w.heap.size w wr ∧ ∀ id ∈ ids.take j, S.q.findIdx? (fun y => y.id == id) ≠ none) (fun i _ => n - (intOf i).toNat)
  case atStart => exact ⟨0, by omega, rfl, Below.refl _ _, by simp⟩
  case round =>
    obtain ⟨j, hj, rfl, hb, hall⟩ := hrel
    by_cases hlt : j < n
    · obtain ⟨bb, oo, rfl, hic⟩ := hI.cells (by omega)
      have hid := (hb.cell (p := ⟨bb, oo + j, none⟩) (lt_of_cell (hic j hlt))).trans (hic j hlt)
      obtain ⟨id, hide⟩ : ∃ id, ids.getD j 0 = id := ⟨_, rfl⟩
      rw [hide] at hid
      have hidj : ids[j]? = some id := by rw [← hide, List.getD_eq_getElem?_getD, List.getElem?_eq_getElem (by omega)]; rfl
      clear hide hic
      have hd := h.later hb
      have hjI : (j : Int) < (n : Int) := by omega
      go_wp2_with fail
      refine Calls.mono (place_ok hd id) ?_
      rintro e w3 ⟨rfl, hb3⟩
      cases hfi : S.q.findIdx? (fun y => y.id == id) with
      | none =>
        rw [idx_none hfi]
        go_wp2
        go_ret
        exact ⟨rfl, hb.trans (hb3.mono hb.size)⟩
      | some i =>
        rw [idx_some hfi]
        have hi0 : (0 : Int) ≤ (i : Int) := by omega
        go_wp2
        go_roundw
        case rel =>
          refine ⟨j + 1, by omega, by go_num, hb.trans (hb3.mono hb.size), ?_⟩
          intro id' hid'
          rw [List.take_add_one, hidj] at hid'
          rcases List.mem_append.1 hid' with h' | h'
          · exact hall id' h'
          · simp at h'
            subst h'
            rw [hfi]; simp
        case measure => simp [intOf]; omega
    · exfalso
      obtain ⟨id, hm, hi⟩ := hno
      exact hall id (by rw [List.take_of_length_le (by omega)]; exact hm) hi
end
end Go.Proofs.Ytemhhgpgpjiijaa
