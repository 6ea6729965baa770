/- A cache for any state: use, fetch, Get (of blocks whose reads do not fail). -/
import Derived.Test.YtijbbkkapimljaaGreatG2
import Derived.Deep.DeepCutAuto
namespace Go.Proofs.YtijbbkkapimljaaGreat
open Go.RowKit Go.Maps
set_option maxRecDepth 100000
set_option linter.unusedVariables false

theorem frame_drewN {X : Nat → Prop} {a b : World} (h : Frame X a b) (q : Nat) : Frame X a (b.drewN q) := ⟨h.os, h.tape, h.output, h.size, h.block⟩
def aRead (S : St) (b : Int) : Nat × List Int × Int × St :=
  if ¬ (0 ≤ b ∧ b < S.N) then (0, [], 1, S)
  else if 0 < S.fl b.toNat then (0, [], 4, { S with fl := upd S.fl b.toNat (S.fl b.toNat - 1) })
  else (128, S.f b.toNat, 0, S)
structure Ok (S : St) : Prop where
  N1 : 1 ≤ S.N
  N2 : S.N ≤ 2048
  q64 : S.q.length ≤ 64
  qok : ∀ x ∈ S.q, x.block < S.N ∧ Sect x.bytes ∧ -9223372036854775808 ≤ x.id ∧ x.id ≤ 9223372036854775807
  lok : 0 ≤ S.last ∧ S.last ≤ 9223372036854775807
  sec : ∀ b, Sect (S.f b)
  fl : ∀ b, 0 ≤ S.fl b ∧ S.fl b ≤ 1000

section
variable {B : Nat} {w w' : World} {c mb d N : Nat} {C : Ch}

end

set_option maxHeartbeats 400000 in
theorem sclone_some (a : Addr) (n c : Nat) (xs : List Int) (w : World) (h : BI w (some a) n xs) :
    Calls Tryz.prog 162 #[.slice (some a) n c] w fun e w' => ∃ g cap, e = .returned (.slice (some ⟨g, 0, none⟩) n cap) ∧ Own w.heap.size w' g n cap xs ∧ Below w.heap.size w w' := by
  obtain ⟨i0, hi, hz0, hz1, hz2⟩ := info_parts info5
  have hbig := h.big
  have hlen := h.len
  have q22 := eqlNil
  have hb0 := (Below.refl w.heap.size w).alloc (Nat.le_refl _) (Obj.cells #[] 5)
  go_enter Tryz.func162, Tryz.ntmps162
  go_wp2_with (at_builtin; refine wpList_append_own _ rfl _ _ 75 rfl w.heap.size 5 i0 (.int .u8 0) 1 1 Tryz.underlying75 hi hz0 hz1 hz2 rfl (by decide) _ _ _ rfl (World.ownsRow_made w #[] 0 (Nat.le_refl _) (Nat.zero_le _) rfl) a n c (xs.map (Value.int .u8)) rfl ?c1 ?c2 ?c3 ?c4 ?c5 ?c6 ?_)
  case c1 => simp [hlen]
  case c2 => exact (h.kept hb0).src'
  case c3 => exact one_cells xs
  case c4 => unfold maxLen; omega
  case c5 => omega
  case c6 => simp
  intro v' w1 hown hgrow hnil
  obtain ⟨g, cap, hv, ho⟩ := own_shape hown (by first | exact hnil | (intro e; exact absurd (hnil.1 e).1 (by simp)))
  rw [hv]
  clear hown hnil
  have hb1 := hb0.grown hgrow (by simp) (by intro k hk; simp [Value.ownBlock] at hk; omega)
  go_wp2
  go_ret
  exact ⟨g, cap, rfl, ho, hb1⟩

theorem bufA_used {f : Bf} (h : Sect f.xs) (u : Nat) : (bufA f).setIfInBounds 128 (.int .i64 (u : Int)) = bufA { f with u := u } := by
  have hl := h.1
  apply Array.ext'
  simp only [bufA, bufL, Array.toList_setIfInBounds]
  rw [List.set_append_right _ _ (by simp [hl])]
  simp [hl]
theorem bufA_pins {f : Bf} (h : Sect f.xs) (p : Nat) : (bufA f).setIfInBounds 129 (.int .i64 (p : Int)) = bufA { f with p := p } := by
  have hl := h.1
  apply Array.ext'
  simp only [bufA, bufL, Array.toList_setIfInBounds]
  rw [List.set_append_right _ _ (by simp [hl])]
  simp [hl]

section
variable {B : Nat} {w w' : World} {c mb d N : Nat} {C : Ch}
theorem buf_bi {w : World} {f : Bf} (h : w.heap[f.g]? = some (.cells (bufA f) 294 (0, 0))) (hs : Sect f.xs) : BI w (some ⟨f.g, 0, none⟩) 128 f.xs := by
  refine ⟨hs.1, by omega, hs.2, fun _ => ⟨f.g, 0, rfl, fun i hi => ?_⟩⟩
  have hl := hs.1
  have e : (bufA f)[i]? = some (.int .u8 (f.xs.getD i 0)) := by
    unfold bufA bufL
    rw [List.getElem?_toArray, List.getElem?_append_left (by simp [hl]; omega), List.getElem?_map, List.getD_eq_getElem?_getD, List.getElem?_eq_getElem (by omega)]
    rfl
  simp [World.cell?, h, e]
/-- One buffer turned, in its place. -/
def rep (L : List Bf) (f : Bf) : List Bf := L.map (fun k => if k.b = f.b then f else k)
theorem mem_rep {L : List Bf} {f k : Bf} (h : k ∈ rep L f) : k = f ∨ (k ∈ L ∧ ¬ k.b = f.b) := by
  obtain ⟨m, hm, e⟩ := List.mem_map.1 h
  by_cases hb : m.b = f.b
  · rw [if_pos hb] at e; exact .inl e.symm
  · rw [if_neg hb] at e; subst e; exact .inr ⟨hm, hb⟩
theorem ne_of_g {L : List Bf} (hd : (L.map (·.g)).Nodup) {f k : Bf} (hf : f ∈ L) (hk : k ∈ L) (e : ¬ k = f) : ¬ k.g = f.g := by
  intro e'
  induction L with
  | nil => cases hf
  | cons m L ih =>
    rw [List.map_cons, List.nodup_cons] at hd
    rcases List.mem_cons.1 hf with h | h
    · rcases List.mem_cons.1 hk with h' | h'
      · exact e (by rw [h, h'])
      · exact absurd (List.mem_map.2 ⟨k, h', by rw [e', h]⟩) hd.1
    · rcases List.mem_cons.1 hk with h' | h'
      · exact absurd (List.mem_map.2 ⟨f, h, by rw [← e', h']⟩) hd.1
      · exact ih hd.2 h h'
theorem rep_map {β : Type} {L : List Bf} (hd : (L.map (·.b)).Nodup) {f f' : Bf} (hf : f ∈ L) (hb : f'.b = f.b) (φ : Bf → β) (hφ : φ f' = φ f) : (rep L f').map φ = L.map φ := by
  unfold rep
  rw [List.map_map]
  apply List.map_congr_left
  intro k hk
  simp only [Function.comp]
  by_cases e : k.b = f'.b
  · rw [if_pos e, hφ, same_of_b hd hf hk (by rw [e, hb])]
  · rw [if_neg e]

/-- A cache with one buffer turned in its place. -/
theorem CW.rep (h : CW B w c mb d N C) {f f' : Bf} (hf : f ∈ C.L) (hb : f'.b = f.b) (hg : f'.g = f.g) (hs : Sect f'.xs) (hp : f'.p ≤ 100) (hc : w'.heap[c]? = w.heap[c]?) (hm : w'.heap[mb]? = w.heap[mb]?)
    (ho : ∀ k ∈ C.L, ¬ k.g = f.g → w'.heap[k.g]? = w.heap[k.g]?) (hn : w'.heap[f.g]? = some (.cells (bufA f') 294 (0, 0))) : CW B w' c mb d N { C with L := YtijbbkkapimljaaGreat.rep C.L f' } := by
  have hd := h.bnd
  refine { row := hc.trans h.row, map := ?_, buf := ?_, sec := ?_, gs := ?_, ps := ?_, bs := ?_, N12 := h.N12, bd := h.bd, len := ?_, lo := ⟨h.lo.1, h.lo.2.1, ?_⟩, cnt := h.cnt }
  · show Bm w' mb ((YtijbbkkapimljaaGreat.rep C.L f').map bg)
    rw [rep_map hd hf hb bg (by simp [bg, hb, hg])]
    exact h.map.kept hm
  · intro k hk
    rcases mem_rep hk with rfl | ⟨hk, hne⟩
    · rw [hg]; exact hn
    · rw [ho k hk (ne_of_g h.gs hf hk (fun e => hne (by rw [e, hb])))]
      exact h.buf k hk
  · intro k hk
    rcases mem_rep hk with rfl | ⟨hk, hne⟩
    · exact hs
    · exact h.sec k hk
  · show ((YtijbbkkapimljaaGreat.rep C.L f').map (·.g)).Nodup
    rw [rep_map hd hf hb (·.g) hg]
    exact h.gs
  · intro k hk
    rcases mem_rep hk with rfl | ⟨hk, hne⟩
    · exact hp
    · exact h.ps k hk
  · intro k hk
    rcases mem_rep hk with rfl | ⟨hk, hne⟩
    · rw [hb]; exact h.bs f hf
    · exact h.bs k hk
  · show (YtijbbkkapimljaaGreat.rep C.L f').length ≤ C.bd
    simp only [YtijbbkkapimljaaGreat.rep, List.length_map]
    exact h.len
  · intro k hk
    rcases mem_rep hk with rfl | ⟨hk, hne⟩
    · rw [hg]; exact h.lo.2.2 f hf
    · exact h.lo.2.2 k hk
theorem CI.rep (h : CI B w c mb d N C) {f f' : Bf} (hf : f ∈ C.L) (hb : f'.b = f.b) (hg : f'.g = f.g) (hu : f'.u = f.u) (hs : Sect f'.xs) (hp : f'.p ≤ 100) (hc : w'.heap[c]? = w.heap[c]?) (hm : w'.heap[mb]? = w.heap[mb]?)
    (ho : ∀ k ∈ C.L, ¬ k.g = f.g → w'.heap[k.g]? = w.heap[k.g]?) (hn : w'.heap[f.g]? = some (.cells (bufA f') 294 (0, 0))) : CI B w' c mb d N { C with L := YtijbbkkapimljaaGreat.rep C.L f' } := by
  refine { CW.rep h.toCW hf hb hg hs hp hc hm ho hn with ord := ?_, us := ?_ }
  · have e := rep_map h.bnd hf hb (·.u) hu
    have h1 : (C.L.map (·.u)).Pairwise (· < ·) := List.pairwise_map.2 h.ord
    rw [← e] at h1
    exact List.pairwise_map.1 h1
  · intro k hk
    rcases mem_rep hk with rfl | ⟨hk, hne⟩
    · rw [hu]; exact h.us f hf
    · exact h.us k hk
end

def outb (L : List Bf) (b : Nat) : List Bf := L.filter (fun k => !(k.b == b))
theorem mem_outb {L : List Bf} {b : Nat} {k : Bf} : k ∈ outb L b ↔ k ∈ L ∧ ¬ k.b = b := by
  unfold outb
  rw [List.mem_filter]
  simp
theorem outb_perm {L : List Bf} (hd : (L.map (·.b)).Nodup) {f : Bf} (hf : f ∈ L) : (outb L f.b ++ [f]).Perm L := by
  induction L with
  | nil => cases hf
  | cons m L ih =>
    rw [List.map_cons, List.nodup_cons] at hd
    by_cases e : m.b = f.b
    · have hm : m = f := by
        rcases List.mem_cons.1 hf with h | h
        · exact h.symm
        · exact absurd (List.mem_map.2 ⟨f, h, e.symm⟩) hd.1
      subst hm
      have e2 : outb (m :: L) m.b = L := by
        unfold outb
        rw [List.filter_cons]
        simp only [beq_self_eq_true, Bool.not_true, Bool.false_eq_true, if_false]
        rw [List.filter_eq_self]
        intro k hk
        have : ¬ k.b = m.b := fun e' => hd.1 (List.mem_map.2 ⟨k, hk, e'⟩)
        simpa using this
      rw [e2]
      exact List.perm_append_comm
    · have hf' : f ∈ L := by
        rcases List.mem_cons.1 hf with h | h
        · subst h; exact absurd rfl e
        · exact h
      have e2 : outb (m :: L) f.b = m :: outb L f.b := by
        unfold outb
        rw [List.filter_cons]
        have : (!(m.b == f.b)) = true := by simpa using e
        rw [if_pos this]
      rw [e2]
      exact (ih hd.2 hf').cons m
theorem Bm.perm {w : World} {mb : Nat} {M M' : List (Nat × Nat)} (h : Bm w mb M) (hp : M.Perm M') : Bm w mb M' := by
  obtain ⟨D, ho, hs, hk, hat⟩ := h.ex
  refine ⟨⟨D, ho, hs.trans hp.length_eq, fun x hx => ?_, fun p hm => hat p (hp.mem_iff.2 hm)⟩, (hp.map _).nodup_iff.1 h.nd, by rw [← hp.length_eq]; exact h.sm⟩
  obtain ⟨p, hm, e⟩ := hk x hx
  exact ⟨p, hp.mem_iff.1 hm, e⟩

section
variable {B : Nat} {w w' : World} {c mb d N : Nat} {C : Ch}
theorem CW.perm (h : CW B w c mb d N C) {L' : List Bf} (hp : C.L.Perm L') : CW B w c mb d N { C with L := L' } :=
  { row := h.row, map := h.map.perm (hp.map _), buf := fun f hf => h.buf f (hp.mem_iff.2 hf), sec := fun f hf => h.sec f (hp.mem_iff.2 hf), gs := (hp.map _).nodup_iff.1 h.gs, ps := fun f hf => h.ps f (hp.mem_iff.2 hf),
    bs := fun f hf => h.bs f (hp.mem_iff.2 hf), N12 := h.N12, bd := h.bd, len := by show L'.length ≤ _; rw [← hp.length_eq]; exact h.len, lo := ⟨h.lo.1, h.lo.2.1, fun f hf => h.lo.2.2 f (hp.mem_iff.2 hf)⟩, cnt := h.cnt }

theorem CW.map_ne (h : CW B w c mb d N C) {k : Nat} {cs : Array Value} {t : TypeId} {fr : Nat × Nat} (hk : w.heap[k]? = some (.cells cs t fr)) : k ≠ mb := by
  rintro rfl
  obtain ⟨D, ⟨es, cl, ho, _⟩, _⟩ := h.map.ex
  rw [ho] at hk
  cases hk
theorem CW.row_ne (h : CW B w c mb d N C) {f : Bf} (hf : f ∈ C.L) : c ≠ f.g := by
  intro e
  have h1 := h.row
  rw [e, h.buf f hf] at h1
  simp at h1

/-- A cache whose buffer's cell is turned. -/
theorem CW.turned (h : CW B w c mb d N C) {f f' : Bf} (hf : f ∈ C.L) (hb : f'.b = f.b) (hg : f'.g = f.g) (hs : Sect f'.xs) (hp : f'.p ≤ 100) (j : Nat) (v : Value) (hA : (bufA f).setIfInBounds j v = bufA f') :
    CW B (w.setCell ⟨f.g, j, none⟩ v) c mb d N { C with L := YtijbbkkapimljaaGreat.rep C.L f' } := by
  refine h.rep hf hb hg hs hp (heap_setCell_other _ _ _ _ (h.row_ne hf)) (heap_setCell_other _ _ _ _ (h.map_ne (h.buf f hf)).symm) (fun k hk hne => heap_setCell_other _ _ _ _ hne) ?_
  rw [← hA]
  exact heap_setCell_same w f.g j _ 294 v (h.buf f hf)
theorem buf_froz (h : CW B w c mb d N C) {f : Bf} (hf : f ∈ C.L) (j : Nat) : w.frozen? ⟨f.g, j, none⟩ = false := by
  simp [World.frozen?, h.buf f hf]
theorem row_frozC (h : CW B w c mb d N C) (j : Nat) : w.frozen? ⟨c, j, none⟩ = false := by
  simp [World.frozen?, h.row]
theorem rep_perm {L : List Bf} (hd : (L.map (·.b)).Nodup) {f f' : Bf} (hf : f ∈ L) (hb : f'.b = f.b) : (YtijbbkkapimljaaGreat.rep L f').Perm (outb L f.b ++ [f']) := by
  have hd' : ((YtijbbkkapimljaaGreat.rep L f').map (·.b)).Nodup := by rw [rep_map hd hf hb (·.b) hb]; exact hd
  have hf' : f' ∈ YtijbbkkapimljaaGreat.rep L f' := List.mem_map.2 ⟨f, hf, by rw [if_pos hb.symm]⟩
  have h1 := (outb_perm hd' hf').symm
  have e : outb (YtijbbkkapimljaaGreat.rep L f') f'.b = outb L f.b := by
    unfold outb YtijbbkkapimljaaGreat.rep
    rw [List.filter_map, hb]
    have e2 : L.filter ((fun k => !(k.b == f.b)) ∘ fun k => if k.b = f.b then f' else k) = L.filter (fun k => !(k.b == f.b)) := by
      apply List.filter_congr
      intro k hk
      simp only [Function.comp]
      by_cases e : k.b = f.b
      · rw [if_pos e, hb, e]
      · rw [if_neg e]
    rw [e2]
    conv => rhs; rw [← List.map_id (L.filter (fun k => !(k.b == f.b)))]
    apply List.map_congr_left
    intro k hk
    have := (List.mem_filter.1 hk).2
    rw [if_neg (by simpa using this)]
    rfl
  rw [e] at h1
  exact h1

set_option maxRecDepth 100000 in
set_option maxHeartbeats 1000000 in
/-- use: a block that is held, and that was just hit or fetched. -/
theorem use_ok (h : CW B w c mb d N C) {f : Bf} (hf : f ∈ C.L) (hu : ∀ k ∈ C.L, ¬ k.b = f.b → k.u < C.hi + C.mi) (ho : (outb C.L f.b).Pairwise (fun a b => a.u < b.u)) :
    Calls Tryz.prog 159 #[.pointer (some ⟨c, 0, none⟩), .int .i64 (f.b : Int)] w fun e w' => ∃ g cap, e = .returned (.slice (some ⟨g, 0, none⟩) 128 cap) ∧ Own w.heap.size w' g 128 cap f.xs ∧
      CI B w' c mb d N { C with L := outb C.L f.b ++ [{ f with u := C.hi + C.mi }] } ∧ Frame (fun k => k = f.g) w w' := by
  have hcnt := h.cnt
  have hcw := h.turned hf (f' := { f with u := C.hi + C.mi }) rfl rfl (h.sec f hf) (h.ps f hf) 128 (.int .i64 ((C.hi + C.mi : Nat) : Int)) (bufA_used (h.sec f hf) _)
  have hci : CI B (w.setCell ⟨f.g, 128, none⟩ (.int .i64 ((C.hi + C.mi : Nat) : Int))) c mb d N { C with L := outb C.L f.b ++ [{ f with u := C.hi + C.mi }] } := by
    refine { CW.perm hcw (rep_perm h.bnd hf rfl) with ord := ?_, us := ?_ }
    · show (outb C.L f.b ++ [_]).Pairwise _
      rw [List.pairwise_append]
      refine ⟨ho, by simp, ?_⟩
      intro a ha b hb
      simp at hb
      subst hb
      obtain ⟨h1, h2⟩ := mem_outb.1 ha
      exact hu a h1 h2
    · intro k hk
      rcases List.mem_append.1 hk with hk | hk
      · obtain ⟨h1, h2⟩ := mem_outb.1 hk
        have := hu k h1 h2
        show k.u ≤ C.hi + C.mi
        omega
      · simp at hk
        subst hk
        exact Nat.le_refl _
  have hfr : Frame (fun k => k = f.g) w (w.setCell ⟨f.g, 128, none⟩ (.int .i64 ((C.hi + C.mi : Nat) : Int))) := Frame.setCell w (p := ⟨f.g, 128, none⟩) _ rfl
  have hbi : BI (w.setCell ⟨f.g, 128, none⟩ (.int .i64 ((C.hi + C.mi : Nat) : Int))) (some ⟨f.g, 0, none⟩) 128 f.xs := buf_bi (f := { f with u := C.hi + C.mi }) (hci.buf _ (by simp)) (h.sec f hf)
  rw [show ((C.hi + C.mi : Nat) : Int) = (C.hi : Int) + (C.mi : Int) by omega] at hci hfr hbi
  have c2 := h.c2
  have c3 := h.c3
  have c4 := h.c4
  have hl := h.hit hf
  have hus := h.used hf
  have hfz := buf_froz h hf 128
  have HC := (show Hid _ from hci)
  have hh0 : (0 : Int) ≤ (C.hi : Int) := by omega
  have hm0 : (0 : Int) ≤ (C.mi : Int) := by omega
  have hsum : (C.hi : Int) + (C.mi : Int) ≤ 4611686018427387904 := by omega
  have hcl := fun q => sclone_some ⟨f.g, 0, none⟩ 128 128 f.xs _ (hbi.kept (below_drewN (Below.refl _ _) q))
  have HQ := (show Hid _ from hcl)
  clear hci hcw h hbi hcl hu ho
  go_enter Tryz.func159, Tryz.ntmps159
  go_wp2_with fail
  go_region
  go_wp2_with (first | (go_at_call 162; refine Calls.mono (HQ.out 1) ?_; rintro e w2 ⟨g, cap, rfl, hown, hb2⟩))
  go_ret
  exact ⟨g, cap, rfl, hown.base (by simp), HC.out.later (below_drewN (Below.refl _ _) 1) |>.later hb2, (frame_drewN hfr 1).trans (frame_of_below hb2)⟩
end

/-- A cache and the disk below it. -/
structure CD (B : Nat) (w : World) (c mb d dm df : Nat) (dq : Value) (C : Ch) (S : St) : Prop where
  ci : CI B w c mb d S.N C
  di : DI B w d dm df dq S
  ne : mb ≠ dm ∧ mb ≠ df

section
variable {B : Nat} {w w' : World} {c mb d dm df : Nat} {dq : Value} {C : Ch} {S : St}
theorem CW.tys {N : Nat} (h : CW B w c mb d N C) {k : Nat} (hk : cfoot c mb C k) : k = mb ∨ ∃ cs t, w.heap[k]? = some (.cells cs t (0, 0)) ∧ (t = 191 ∨ t = 294) := by
  rcases hk with rfl | rfl | ⟨f, hf, rfl⟩
  · exact .inr ⟨_, _, h.row, .inl rfl⟩
  · exact .inl rfl
  · exact .inr ⟨_, _, h.buf f hf, .inr rfl⟩
theorem CW.apart {N : Nat} (h : CW B w c mb d N C) (hd : DI B w d dm df dq S) (hne : mb ≠ dm ∧ mb ≠ df) : ∀ k, cfoot c mb C k → ¬ foot d dm df dq k := by
  intro k hk hf
  obtain ⟨D, ⟨es, ck, hm, _⟩, _⟩ := hd.secs.ex
  obtain ⟨D', ⟨es', ck', hm', _⟩, _⟩ := hd.fls.ex
  obtain ⟨D2, ⟨es2, ck2, hm2, _⟩, _⟩ := h.map.ex
  rcases h.tys hk with rfl | ⟨cs, t, hc, ht⟩
  · rcases hf with rfl | rfl | rfl | hq
    · rw [hd.row] at hm2; cases hm2
    · exact hne.1 rfl
    · exact hne.2 rfl
    · obtain ⟨cs, hc⟩ := own_ty hd.que hq
      rw [hc] at hm2; cases hm2
  · rcases hf with rfl | rfl | rfl | hq
    · rw [hd.row] at hc
      simp only [Option.some.injEq, Obj.cells.injEq] at hc
      rcases ht with rfl | rfl
      · exact absurd hc.2.1 (by decide)
      · exact absurd hc.2.1 (by decide)
    · rw [hm] at hc; cases hc
    · rw [hm'] at hc; cases hc
    · obtain ⟨cs', hc'⟩ := own_ty hd.que hq
      rw [hc'] at hc
      simp only [Option.some.injEq, Obj.cells.injEq] at hc
      rcases ht with rfl | rfl
      · exact absurd hc.2.1 (by decide)
      · exact absurd hc.2.1 (by decide)
theorem CD.apart (h : CD B w c mb d dm df dq C S) : ∀ k, cfoot c mb C k → ¬ foot d dm df dq k := CW.apart h.ci.toCW h.di h.ne
theorem CD.later (h : CD B w c mb d dm df dq C S) (hb : Below w.heap.size w w') : CD B w' c mb d dm df dq C S := ⟨h.ci.later hb, h.di.later hb, h.ne⟩
theorem CD.read (h : CD B w c mb d dm df dq C S) {S' : St} (hN : S'.N = S.N) (hd : DI B w' d dm df dq S') (hf : Frame (foot d dm df dq) w w') : CD B w' c mb d dm df dq C S' :=
  ⟨hN ▸ h.ci.kept (fun k hk => hf.block k (h.ci.in k hk).2 (h.apart k hk)), hd, h.ne⟩
theorem aRead_N (S : St) (b : Int) : (aRead S b).2.2.2.N = S.N := by
  unfold aRead
  split
  · rfl
  · split <;> rfl

def zbuf (g : Nat) : Bf := ⟨0, 0, 0, g, zer⟩
theorem build90 (w : World) : (Instr.build 294 #[]).run Tryz.prog w = .ok (.agg (bufA (zbuf 0))) w := by kernel_rfl
theorem len54 {N : Nat} (h : CW B w c mb d N C) (ty : TypeId) : (Builtin.len_ #[189] ty #[.map (some mb)]).run Tryz.prog w = .ok (.int .i64 (C.L.length : Int)) w := by
  obtain ⟨D, ho, hs, _⟩ := h.map.ex
  rw [ho.len Tryz.underlying189 ty, hs]
  simp

set_option maxRecDepth 100000 in
set_option maxHeartbeats 1000000 in
theorem fetch_pinned (h : CD B w c mb d dm df dq C S) (b : Nat) (hb : b < S.N) (hfull : C.bd ≤ C.L.length) (hv : vic C.L = none) :
    Calls Tryz.prog 160 #[.pointer (some ⟨c, 0, none⟩), .int .i64 (b : Int)] w fun e w' => e = .returned (.int .i64 60) ∧ Below w.heap.size w w' := by
  have c2 := h.ci.c2
  have c1 := h.ci.c1
  have hlen : ∀ q, (Builtin.len_ #[189] 3 #[.map (some mb)]).run Tryz.prog (w.drewN q) = .ok (.int .i64 (C.L.length : Int)) (w.drewN q) := fun q => len54 (h.ci.later (below_drewN (Below.refl _ _) q)).toCW 3
  have hfI : (C.bd : Int) ≤ (C.L.length : Int) := by omega
  have hold := fun q => oldest_ok (h.ci.later (below_drewN (Below.refl _ _) q))
  have eV : vicV C.L = .tuple #[.int .i64 0, .bool false] := by unfold vicV; rw [hv]
  rw [eV] at hold
  have HO := (show Hid _ from hold)
  clear hold h hv eV
  go_enter Tryz.func160, Tryz.ntmps160
  go_wp2_with fail
  go_quiet (fail)
  go_wp2_with (first | (go_at_call 218; refine Calls.mono (HO.out _) ?_; rintro e w1 ⟨rfl, hb1⟩))
  go_ret
  exact ⟨rfl, (below_drewN (Below.refl _ w) _).trans (hb1.mono (Nat.le_refl _))⟩

/-- Whether there is no room, and which one goes then. -/
def canGo (C : Ch) : Prop := C.bd ≤ C.L.length → ∃ f, vic C.L = some f

theorem vicV_ok {L : List Bf} : ∃ x y, vicV L = .tuple #[.int .i64 x, .bool y] ∧ (y = (vic L).isSome) ∧ (∀ f, vic L = some f → x = (f.b : Int)) := by
  unfold vicV
  cases h : vic L with
  | none => exact ⟨0, false, rfl, rfl, fun f e => by cases e⟩
  | some f => exact ⟨_, true, rfl, rfl, fun k e => by cases e; rfl⟩

end

/-- The buffers that stay when another one is to come. -/
def room (C : Ch) : List Bf := if C.bd ≤ C.L.length then (match vic C.L with | some f => outb C.L f.b | none => C.L) else C.L

section
variable {B : Nat} {w w' : World} {c mb d dm df N : Nat} {dq : Value} {C : Ch} {S : St}
theorem outb_map (L : List Bf) (b : Nat) : (outb L b).map bg = (L.map bg).filter (fun p => !(p.1 == b)) := by
  unfold outb
  rw [List.filter_map]
  rfl
theorem sub_outb (L : List Bf) (b : Nat) : (outb L b).Sublist L := List.filter_sublist
theorem CW.out (h : CW B w c mb d N C) (b : Nat) (hb : b < N) (ty : TypeId) : ∃ w', (Builtin.delete_ #[189, 3] ty #[.map (some mb), .int .i64 (b : Int)]).run Tryz.prog w = .ok (.tuple #[]) w' ∧ CW B w' c mb d N { C with L := outb C.L b } ∧ w.grownBy w' (some mb) := by
  obtain ⟨w', hr, hm, hg⟩ := h.map.delete b (by have := h.N12; omega) ty
  have hk : ∀ k, k < w.heap.size → k ≠ mb → w'.heap[k]? = w.heap[k]? := fun k hk hne => hg.block k hk (by simpa using hne)
  refine ⟨w', hr, ?_, hg⟩
  have hsub := sub_outb C.L b
  exact { row := (hk c (Array.getElem?_eq_some_iff.1 h.row).1 (h.map_ne h.row)).trans h.row
          map := by show Bm w' mb ((outb C.L b).map bg); rw [outb_map]; exact hm
          buf := fun f hf => (hk f.g (Array.getElem?_eq_some_iff.1 (h.buf f (hsub.subset hf))).1 (h.map_ne (h.buf f (hsub.subset hf)))).trans (h.buf f (hsub.subset hf))
          sec := fun f hf => h.sec f (hsub.subset hf)
          gs := List.Nodup.sublist (hsub.map _) h.gs
          ps := fun f hf => h.ps f (hsub.subset hf)
          bs := fun f hf => h.bs f (hsub.subset hf)
          N12 := h.N12, bd := h.bd, len := Nat.le_trans hsub.length_le h.len, lo := ⟨h.lo.1, h.lo.2.1, fun f hf => h.lo.2.2 f (hsub.subset hf)⟩, cnt := h.cnt }

/-- A buffer more. -/
theorem CW.add (h : CW B w c mb d N C) {f : Bf} (hfb : f.b < N) (hno : ∀ k ∈ C.L, ¬ k.b = f.b) (hl : C.L.length < C.bd) (hs : Sect f.xs) (hp : f.p ≤ 100) (hB : B ≤ f.g) (hgn : ∀ k ∈ C.L, ¬ k.g = f.g)
    (hc : w'.heap[c]? = w.heap[c]?) (hm : Bm w' mb (C.L.map bg ++ [(f.b, f.g)])) (ho : ∀ k ∈ C.L, w'.heap[k.g]? = w.heap[k.g]?) (hn : w'.heap[f.g]? = some (.cells (bufA f) 294 (0, 0))) : CW B w' c mb d N { C with L := C.L ++ [f] } := by
  have key : ∀ {P : Bf → Prop}, (∀ k ∈ C.L, P k) → P f → ∀ k ∈ C.L ++ [f], P k := fun h1 h2 k hk => by
    rcases List.mem_append.1 hk with hk | hk
    · exact h1 k hk
    · simp at hk; subst hk; exact h2
  refine { row := hc.trans h.row, map := ?_, buf := key (fun k hk => (ho k hk).trans (h.buf k hk)) hn, sec := key h.sec hs, gs := ?_, ps := key h.ps hp, bs := key h.bs hfb, N12 := h.N12, bd := h.bd, len := ?_, lo := ⟨h.lo.1, h.lo.2.1, key h.lo.2.2 hB⟩, cnt := h.cnt }
  · show Bm w' mb ((C.L ++ [f]).map bg)
    rw [List.map_append]
    exact hm
  · show ((C.L ++ [f]).map (·.g)).Nodup
    rw [List.map_append, List.nodup_append]
    refine ⟨h.gs, by simp, ?_⟩
    intro a ha x hx e
    simp at hx
    obtain ⟨k, hk, rfl⟩ := List.mem_map.1 ha
    exact hgn k hk (by omega)
  · show (C.L ++ [f]).length ≤ C.bd
    simp
    omega

theorem room_sub (C : Ch) : (room C).Sublist C.L := by
  unfold room
  split
  · split
    · exact sub_outb _ _
    · exact List.Sublist.refl _
  · exact List.Sublist.refl _
theorem room_len (h : CW B w c mb d N C) (hg : canGo C) : (room C).length < C.bd := by
  unfold room
  have hbd := h.bd
  have hl := h.len
  split
  · rename_i hf
    obtain ⟨f, hv⟩ := hg hf
    rw [hv]
    have hm : f ∈ C.L := List.mem_of_find?_eq_some hv
    have := (outb_perm h.bnd hm).length_eq
    simp at this
    show (outb C.L f.b).length < C.bd
    omega
  · omega

theorem zero90 : Tryz.zeroCells294 = (bufL (zbuf 0)).toArray := by kernel_rfl
theorem zbuf_splice (xs : List Int) (hs : Sect xs) (g b : Nat) : splice (bufL (zbuf 0)) 0 (xs.map (Value.int .u8)) = bufL ⟨b, 0, 0, g, xs⟩ := by
  have hl := hs.1
  unfold splice bufL zbuf
  simp [hl, zer_len]

set_option maxRecDepth 100000 in
set_option maxHeartbeats 2000000 in
theorem fetch_ok (h : CD B w c mb d dm df dq C S) (hS : Ok S) (b : Nat) (hb : b < S.N) (hno : ∀ k ∈ C.L, ¬ k.b = b) (hg : canGo C) (h0 : S.fl b = 0) :
    Calls Tryz.prog 160 #[.pointer (some ⟨c, 0, none⟩), .int .i64 (b : Int)] w fun e w' => ∃ g, e = .returned (.int .i64 0) ∧ w.heap.size ≤ g ∧ CW B w' c mb d S.N { C with L := room C ++ [⟨b, 0, 0, g, S.f b⟩] } ∧ Frame (fun k => k = mb) w w' := by
  have c2 := h.ci.c2
  have c1 := h.ci.c1
  have hlen : ∀ q, (Builtin.len_ #[189] 3 #[.map (some mb)]).run Tryz.prog (w.drewN q) = .ok (.int .i64 (C.L.length : Int)) (w.drewN q) := fun q => len54 (h.ci.later (below_drewN (Below.refl _ _) q)).toCW 3
  have hold := fun q => oldest_ok (h.ci.later (below_drewN (Below.refl _ _) q))
  obtain ⟨vx, vy, eV, hvy, hvx⟩ := @vicV_ok C.L
  rw [eV] at hold
  have hread := fun w1 (hb1 : Below w.heap.size w w1) => read_ok (h.later hb1).di b hb h0
  have H := (show Hid _ from h)
  have HO := (show Hid _ from hold)
  have HR := (show Hid _ from hread)
  have HG := (show Hid _ from hg)
  have hrl := room_len h.ci.toCW hg
  have hvN := h.ci.N12
  have hbd64 := h.ci.bd
  clear hold h hread eV hg
  have hdel : C.bd ≤ C.L.length → vy = true ∧ ∃ f, vic C.L = some f ∧ vx = (f.b : Int) ∧ f ∈ C.L := by
    intro hf
    obtain ⟨f, hv⟩ := HG.out hf
    exact ⟨by rw [hvy, hv]; rfl, f, hv, hvx f hv, List.mem_of_find?_eq_some hv⟩
  clear hvy hvx
  go_enter Tryz.func160, Tryz.ntmps160
  by_cases hfull : C.bd ≤ C.L.length
  · have hfI : (C.bd : Int) ≤ (C.L.length : Int) := by omega
    obtain ⟨rfl, f, hv, rfl, hfm⟩ := hdel hfull
    clear hdel
    have hfb := H.out.ci.bs f hfm
    go_wp2_with fail
    go_quiet (fail)
    go_upto_region 10 with (first
      | (go_at_call 218; refine Calls.mono (HO.out _) ?_; rintro e w1 ⟨rfl, hb1⟩; have hb1 := (below_drewN (Below.refl w.heap.size w) nq).trans (hb1.mono (Nat.le_refl _)); have c0 := (H.out.later hb1).ci.c0)
      | (go_at_call 219; refine Calls.mono (HR.out _ hb1) ?_; rintro e w2 ⟨gx, rfl, hown, hb2⟩; have hb2 := hb1.trans (hb2.mono hb1.size); have c2 := (H.out.later hb2).ci.c2; obtain ⟨w3, hr3, hcw3, hg3⟩ := CW.out (H.out.later hb2).ci.toCW f.b hfb 0))
    have hfr3 : Frame (fun k => k = mb) w w3 := (frame_of_below hb2).trans (frame_of_grown hg3 (fun k hk => by cases hk; rfl))
    have hx3 : BI w3 (some ⟨gx, 0, none⟩) 128 (S.f b) := by
      have ho3 : Own w1.heap.size w3 gx 128 128 (S.f b) := by
        refine ownsRow_kept hown (fun k hk => hg3.block k (hown.lt k hk).2 ?_)
        intro e
        obtain ⟨cs, hc⟩ := own_ty hown hk
        exact (H.out.later hb2).ci.map_ne hc (by simpa using e)
      exact ho3.bi (by omega) (hS.sec b).2
    have eR : room C = outb C.L f.b := by unfold room; rw [if_pos hfull, hv]
    have hsubR := sub_outb C.L f.b
    rw [eR] at hrl
    have HE := (show Hid _ from eR)
    clear eR
    clear hr3 hown hb1 hg3
    have hz90 := zero90
    have hrow4 : (w3.alloc (.cells Tryz.zeroCells294 294)).heap[w3.heap.size]? = some (.cells (bufL (zbuf 0)).toArray 294 (0, 0)) := by
      rw [hz90]; exact heap_alloc_new w3 _
    have hb4 : Below w3.heap.size w3 (w3.alloc (.cells Tryz.zeroCells294 294)) := (Below.refl _ _).alloc (Nat.le_refl _) _
    have hsx := hS.sec b
    clear hlen c0 c1 c2 HO HR hz90
    go_wp2_with (first
      | (refine wpList_copy_splice rfl _ _ 75 75 rfl 5 Tryz.underlying75 size5 _ _ _ _ _ _ rfl rfl w3.heap.size 0 _ 294 hrow4 ((S.f b).map (Value.int .u8)) ?c1 ?c2 ?c3 ?c4 w3.heap.size w3 hb4 (Nat.le_refl _) ?_))
    case c1 => simp [hsx.1]
    case c2 =>
      intro hp j a hj
      obtain ⟨b', o', e, hcc⟩ := (hx3.kept hb4).cells (by omega)
      cases e
      have hjl := (List.getElem?_eq_some_iff.1 hj).1
      have := hcc j (by rw [← hsx.1]; exact hjl)
      rw [Nat.zero_add, List.getD_eq_getElem?_getD, hj] at this
      exact this
    case c3 => simp [bufL, zbuf, zer_len, hsx.1]
    case c4 => exact one_cells _
    intro w5 hg5 hb5
    have hrow5 := hg5.out
    rw [zbuf_splice (S.f b) hsx w3.heap.size b] at hrow5
    have hcw5 := hcw3.later hb5
    obtain ⟨w6, hr6, hm6, hg6⟩ := hcw5.map.update b w3.heap.size (by
      intro p hp
      obtain ⟨k, hk, rfl⟩ := List.mem_map.1 hp
      exact hno k (hsubR.subset hk)) (by omega) (by simp only [List.length_map]; omega)
    have hk6 : ∀ k, k < w5.heap.size → k ≠ mb → w6.heap[k]? = w5.heap[k]? := fun k hk hne => hg6.block k hk (by simpa using hne)
    have hlt5 := (Array.getElem?_eq_some_iff.1 hrow5).1
    have hadd := CW.add (f := ⟨b, 0, 0, w3.heap.size, S.f b⟩) hcw5 hb (fun k hk => hno k (hsubR.subset hk)) hrl hsx (by show 0 ≤ 100; omega) (Nat.le_trans hcw3.lo.1 (Nat.le_of_lt (Array.getElem?_eq_some_iff.1 hcw3.row).1))
      (fun k hk => by have := (Array.getElem?_eq_some_iff.1 (hcw3.buf k hk)).1; show ¬ k.g = w3.heap.size; omega) (hk6 c (Array.getElem?_eq_some_iff.1 hcw5.row).1 (hcw5.map_ne hcw5.row)) hm6 (fun k hk => hk6 k.g (Array.getElem?_eq_some_iff.1 (hcw5.buf k hk)).1 (hcw5.map_ne (hcw5.buf k hk)))
      ((hk6 w3.heap.size hlt5 (hcw5.map_ne hrow5)).trans hrow5)
    have c2 := hcw5.c2
    have HA := (show Hid _ from hadd)
    have hfin := (hfr3.trans (frame_of_below hb5)).trans (frame_of_grown (X := fun k => k = mb) hg6 (fun k hk => by cases hk; rfl))
    clear hadd hm6 hcw5 hcw3 hrow5 hrow4 hg5
    go_wp2_with fail
    go_ret
    first
      | exact ⟨rfl, w3.heap.size, by have := hfr3.size; omega, by rw [HE.out]; exact HA.out, hfin⟩
      | exact ⟨w3.heap.size, rfl, by have := hfr3.size; omega, by rw [HE.out]; exact HA.out, hfin⟩
  · have hfI : ¬ (C.bd : Int) ≤ (C.L.length : Int) := by omega
    have hfd : decide ((C.bd : Int) ≤ (C.L.length : Int)) = false := decide_eq_false hfI
    have hfJ : (C.L.length : Int) < (C.bd : Int) := by omega
    have hfK : decide (C.bd ≤ C.L.length) = false := decide_eq_false hfull
    clear hdel
    go_wp2_with fail
    go_quiet (fail)
    go_upto_region 10 with (first
      | (go_at_call 218; refine Calls.mono (HO.out _) ?_; rintro e w1 ⟨rfl, hb1⟩; have hb1 := (below_drewN (Below.refl w.heap.size w) nq).trans (hb1.mono (Nat.le_refl _)); have c0 := (H.out.later hb1).ci.c0)
      | (go_at_call 219; refine Calls.mono (HR.out _ hb1) ?_; rintro e w3 ⟨gx, rfl, hown, hb2⟩; have hb2 := hb1.trans (hb2.mono hb1.size)))
    have hcw3 := (H.out.later hb2).ci.toCW
    have hfr3 : Frame (fun k => k = mb) w w3 := frame_of_below hb2
    have hx3 : BI w3 (some ⟨gx, 0, none⟩) 128 (S.f b) := hown.bi (by omega) (hS.sec b).2
    have eR : room C = C.L := by unfold room; rw [if_neg hfull]
    have hsubR := List.Sublist.refl C.L
    rw [eR] at hrl
    have HE := (show Hid _ from eR)
    clear eR
    clear hown hb1
    have hz90 := zero90
    have hrow4 : (w3.alloc (.cells Tryz.zeroCells294 294)).heap[w3.heap.size]? = some (.cells (bufL (zbuf 0)).toArray 294 (0, 0)) := by
      rw [hz90]; exact heap_alloc_new w3 _
    have hb4 : Below w3.heap.size w3 (w3.alloc (.cells Tryz.zeroCells294 294)) := (Below.refl _ _).alloc (Nat.le_refl _) _
    have hsx := hS.sec b
    clear hlen c0 c1 c2 HO HR hz90
    go_wp2_with (first
      | (refine wpList_copy_splice rfl _ _ 75 75 rfl 5 Tryz.underlying75 size5 _ _ _ _ _ _ rfl rfl w3.heap.size 0 _ 294 hrow4 ((S.f b).map (Value.int .u8)) ?c1 ?c2 ?c3 ?c4 w3.heap.size w3 hb4 (Nat.le_refl _) ?_))
    case c1 => simp [hsx.1]
    case c2 =>
      intro hp j a hj
      obtain ⟨b', o', e, hcc⟩ := (hx3.kept hb4).cells (by omega)
      cases e
      have hjl := (List.getElem?_eq_some_iff.1 hj).1
      have := hcc j (by rw [← hsx.1]; exact hjl)
      rw [Nat.zero_add, List.getD_eq_getElem?_getD, hj] at this
      exact this
    case c3 => simp [bufL, zbuf, zer_len, hsx.1]
    case c4 => exact one_cells _
    intro w5 hg5 hb5
    have hrow5 := hg5.out
    rw [zbuf_splice (S.f b) hsx w3.heap.size b] at hrow5
    have hcw5 := hcw3.later hb5
    obtain ⟨w6, hr6, hm6, hg6⟩ := hcw5.map.update b w3.heap.size (by
      intro p hp
      obtain ⟨k, hk, rfl⟩ := List.mem_map.1 hp
      exact hno k (hsubR.subset hk)) (by omega) (by simp only [List.length_map]; omega)
    have hk6 : ∀ k, k < w5.heap.size → k ≠ mb → w6.heap[k]? = w5.heap[k]? := fun k hk hne => hg6.block k hk (by simpa using hne)
    have hlt5 := (Array.getElem?_eq_some_iff.1 hrow5).1
    have hadd := CW.add (f := ⟨b, 0, 0, w3.heap.size, S.f b⟩) hcw5 hb (fun k hk => hno k (hsubR.subset hk)) hrl hsx (by show 0 ≤ 100; omega) (Nat.le_trans hcw3.lo.1 (Nat.le_of_lt (Array.getElem?_eq_some_iff.1 hcw3.row).1))
      (fun k hk => by have := (Array.getElem?_eq_some_iff.1 (hcw3.buf k hk)).1; show ¬ k.g = w3.heap.size; omega) (hk6 c (Array.getElem?_eq_some_iff.1 hcw5.row).1 (hcw5.map_ne hcw5.row)) hm6 (fun k hk => hk6 k.g (Array.getElem?_eq_some_iff.1 (hcw5.buf k hk)).1 (hcw5.map_ne (hcw5.buf k hk)))
      ((hk6 w3.heap.size hlt5 (hcw5.map_ne hrow5)).trans hrow5)
    have c2 := hcw5.c2
    have HA := (show Hid _ from hadd)
    have hfin := (hfr3.trans (frame_of_below hb5)).trans (frame_of_grown (X := fun k => k = mb) hg6 (fun k hk => by cases hk; rfl))
    clear hadd hm6 hcw5 hcw3 hrow5 hrow4 hg5
    go_wp2_with fail
    go_ret
    first
      | exact ⟨rfl, w3.heap.size, by have := hfr3.size; omega, by rw [HE.out]; exact HA.out, hfin⟩
      | exact ⟨w3.heap.size, rfl, by have := hfr3.size; omega, by rw [HE.out]; exact HA.out, hfin⟩
end

section
variable {B : Nat} {w w' : World} {c mb d dm df N : Nat} {dq : Value} {C : Ch} {S : St}
theorem CW.bump (h : CW B w c mb d N C) (j : Nat) (v : Value) {hi mi : Nat} (hr : (w.setCell ⟨c, j, none⟩ v).heap[c]? = some (.cells #[.pointer (some ⟨d, 0, none⟩), .int .i64 (C.bd : Int), .map (some mb), .int .i64 (hi : Int), .int .i64 (mi : Int)] 191 (0, 0)))
    (hc : hi + mi ≤ 4611686018427387904) : CW B (w.setCell ⟨c, j, none⟩ v) c mb d N { C with hi := hi, mi := mi } :=
  { row := hr, map := h.map.kept (heap_setCell_other _ _ _ _ (h.map_ne h.row).symm), buf := fun f hf => (heap_setCell_other _ _ _ _ (h.row_ne hf).symm).trans (h.buf f hf), sec := h.sec, gs := h.gs, ps := h.ps, bs := h.bs, N12 := h.N12, bd := h.bd, len := h.len, lo := h.lo, cnt := hc }
theorem CW.hits (h : CW B w c mb d N C) (hc : C.hi + C.mi < 4611686018427387904) : CW B (w.setCell ⟨c, 3, none⟩ (.int .i64 ((C.hi : Int) + 1))) c mb d N { C with hi := C.hi + 1 } := by
  have := h.bump 3 (.int .i64 ((C.hi : Int) + 1)) (hi := C.hi + 1) (mi := C.mi) (by
    rw [heap_setCell_same w c 3 _ 191 _ h.row]
    simp) (by omega)
  exact this
theorem CW.misses (h : CW B w c mb d N C) (hc : C.hi + C.mi < 4611686018427387904) : CW B (w.setCell ⟨c, 4, none⟩ (.int .i64 ((C.mi : Int) + 1))) c mb d N { C with mi := C.mi + 1 } := by
  have := h.bump 4 (.int .i64 ((C.mi : Int) + 1)) (hi := C.hi) (mi := C.mi + 1) (by
    rw [heap_setCell_same w c 4 _ 191 _ h.row]
    simp) (by omega)
  exact this
theorem CD.missed (h : CD B w c mb d dm df dq C S) (hc : C.hi + C.mi < 4611686018427387904) : CD B (w.setCell ⟨c, 4, none⟩ (.int .i64 ((C.mi : Int) + 1))) c mb d dm df dq { C with mi := C.mi + 1 } S :=
  ⟨{ CW.misses h.ci.toCW hc with ord := h.ci.ord, us := fun f hf => by have := h.ci.us f hf; show f.u ≤ C.hi + (C.mi + 1); omega },
   h.di.kept (fun k hk => heap_setCell_other _ _ _ _ (by rintro rfl; exact h.apart _ (.inl rfl) hk)), h.ne⟩

set_option maxHeartbeats 400000 in
theorem get_arg (h : CD B w c mb d dm df dq C S) (b : Int) (hb : b < 0 ∨ (S.N : Int) ≤ b) : Calls Tryz.prog 100 #[.pointer (some ⟨c, 0, none⟩), .int .i64 b] w fun e w' => e = .returned (.tuple #[.slice none 0 0, .int .i64 1]) ∧ w' = w := by
  have hr := refusal_arg h.ci.toCW (blocks_ok h.di) b hb
  clear hb
  go_enter Tryz.func100, Tryz.ntmps100
  go_wp2_with (first | (go_at_call 158; refine same_at hr ?_))
  go_ret2
  exact ⟨rfl, rfl⟩

set_option maxHeartbeats 1000000 in
theorem get_hit (h : CD B w c mb d dm df dq C S) {f : Bf} (hf : f ∈ C.L) (hc : C.hi + C.mi < 4611686018427387904) :
    Calls Tryz.prog 100 #[.pointer (some ⟨c, 0, none⟩), .int .i64 (f.b : Int)] w fun e w' => ∃ g cap, e = .returned (.tuple #[.slice (some ⟨g, 0, none⟩) 128 cap, .int .i64 0]) ∧ Own w.heap.size w' g 128 cap f.xs ∧
      CD B w' c mb d dm df dq { C with hi := C.hi + 1, L := outb C.L f.b ++ [{ f with u := C.hi + 1 + C.mi }] } S ∧ Frame (cfoot c mb C) w w' := by
  have hfb := h.ci.bs f hf
  have hr := refusal_ok h.ci.toCW (blocks_ok h.di) f.b hfb
  have c2 := h.ci.c2
  have c3 := h.ci.c3
  have hl := h.ci.hit hf
  have hfz := row_frozC h.ci.toCW 3
  have hcw := CW.hits h.ci.toCW hc
  have hu := use_ok hcw (f := f) hf (fun k hk hne => by have := h.ci.us k hk; show k.u < C.hi + 1 + C.mi; omega) (List.Pairwise.sublist (sub_outb C.L f.b) h.ci.ord)
  have H := (show Hid _ from h)
  have hhi : (C.hi : Int) + 1 ≤ 4611686018427387904 := by omega
  have hh0 : (0 : Int) ≤ (C.hi : Int) := by omega
  clear h hcw hfb
  go_enter Tryz.func100, Tryz.ntmps100
  go_wp2_with (first
    | (go_at_call 158; refine same_at hr ?_)
    | (go_at_call 159; refine Calls.mono hu ?_; rintro e w2 ⟨g, cap, rfl, hown, hci2, hf2⟩))
  go_ret2
  have hfr : Frame (cfoot c mb C) w w2 := (Frame.setCell w (p := ⟨c, 3, none⟩) _ (.inl rfl)).trans (hf2.mono (fun k _ e => by rw [e]; exact .inr (.inr ⟨f, hf, rfl⟩)))
  exact ⟨g, cap, rfl, hown.base (by simp), ⟨hci2, H.out.di.kept (fun k hk => hfr.block k (H.out.di.in k hk).2 (fun e => H.out.apart k e hk)), H.out.ne⟩, hfr⟩

set_option maxHeartbeats 1000000 in
theorem get_pinned (h : CD B w c mb d dm df dq C S) (b : Nat) (hb : b < S.N) (hno : ∀ k ∈ C.L, ¬ k.b = b) (hc : C.hi + C.mi < 4611686018427387904) (hfull : C.bd ≤ C.L.length) (hv : vic C.L = none) :
    Calls Tryz.prog 100 #[.pointer (some ⟨c, 0, none⟩), .int .i64 (b : Int)] w fun e w' => e = .returned (.tuple #[.slice none 0 0, .int .i64 60]) ∧ CD B w' c mb d dm df dq { C with mi := C.mi + 1 } S ∧ Frame (cfoot c mb C) w w' := by
  have hr := refusal_ok h.ci.toCW (blocks_ok h.di) b hb
  have c2 := h.ci.c2
  have c4 := h.ci.c4
  have hl := h.ci.miss hb hno
  have hfz := row_frozC h.ci.toCW 4
  have hcd := h.missed hc
  have hu := fetch_pinned hcd b hb hfull hv
  have H := (show Hid _ from hcd)
  have hhi : (C.mi : Int) + 1 ≤ 4611686018427387904 := by omega
  have hh0 : (0 : Int) ≤ (C.mi : Int) := by omega
  clear h hcd hv hno
  go_enter Tryz.func100, Tryz.ntmps100
  go_wp2_with (first
    | (go_at_call 158; refine same_at hr ?_)
    | (go_at_call 160; refine Calls.mono hu ?_; rintro e w2 ⟨rfl, hb2⟩))
  go_ret2
  exact ⟨rfl, H.out.later hb2, (Frame.setCell w (p := ⟨c, 4, none⟩) _ (.inl rfl)).trans (frame_of_below hb2)⟩

theorem outb_snoc {L : List Bf} {f : Bf} (h : ∀ k ∈ L, ¬ k.b = f.b) : outb (L ++ [f]) f.b = L := by
  unfold outb
  rw [List.filter_append]
  have e1 : L.filter (fun k => !(k.b == f.b)) = L := by
    rw [List.filter_eq_self]
    intro k hk
    simpa using h k hk
  rw [e1]
  simp

set_option maxHeartbeats 1000000 in
theorem get_new (h : CD B w c mb d dm df dq C S) (hS : Ok S) (b : Nat) (hb : b < S.N) (hno : ∀ k ∈ C.L, ¬ k.b = b) (hc : C.hi + C.mi < 4611686018427387904) (hg : canGo C) (h0 : S.fl b = 0) :
    Calls Tryz.prog 100 #[.pointer (some ⟨c, 0, none⟩), .int .i64 (b : Int)] w fun e w' => ∃ g cap gn, e = .returned (.tuple #[.slice (some ⟨g, 0, none⟩) 128 cap, .int .i64 0]) ∧ Own w.heap.size w' g 128 cap (S.f b) ∧ w.heap.size ≤ gn ∧
      CD B w' c mb d dm df dq { C with mi := C.mi + 1, L := room C ++ [⟨b, C.hi + (C.mi + 1), 0, gn, S.f b⟩] } S ∧ Frame (cfoot c mb C) w w' := by
  have hr := refusal_ok h.ci.toCW (blocks_ok h.di) b hb
  have c2 := h.ci.c2
  have c4 := h.ci.c4
  have hl := h.ci.miss hb hno
  have hfz := row_frozC h.ci.toCW 4
  have hcd := h.missed hc
  have hsub := room_sub C
  have hu := fetch_ok hcd hS b hb hno hg h0
  have hux : ∀ w2 g, CW B w2 c mb d S.N { C with mi := C.mi + 1, L := room C ++ [⟨b, 0, 0, g, S.f b⟩] } → _ := fun w2 g hcw =>
    use_ok (f := ⟨b, 0, 0, g, S.f b⟩) hcw (by simp) (fun k hk hne => by
      rcases List.mem_append.1 hk with hk | hk
      · have := h.ci.us k (hsub.subset hk); show k.u < C.hi + (C.mi + 1); omega
      · simp at hk; subst hk; exact absurd rfl hne) (by
      show (outb (room C ++ [⟨b, 0, 0, g, S.f b⟩]) b).Pairwise _
      rw [outb_snoc (f := ⟨b, 0, 0, g, S.f b⟩) (fun k hk => hno k (hsub.subset hk))]
      exact List.Pairwise.sublist hsub h.ci.ord)
  have HU := (show Hid _ from hux)
  have H := (show Hid _ from h)
  have HO : Hid (∀ g, outb (room C ++ [⟨b, 0, 0, g, S.f b⟩]) b = room C) := fun g => outb_snoc (f := ⟨b, 0, 0, g, S.f b⟩) (fun k hk => hno k (hsub.subset hk))
  have hhi : (C.mi : Int) + 1 ≤ 4611686018427387904 := by omega
  have hh0 : (0 : Int) ≤ (C.mi : Int) := by omega
  clear h hcd hno hg hux hsub
  go_enter Tryz.func100, Tryz.ntmps100
  go_wp2_with (first
    | (go_at_call 158; refine same_at hr ?_)
    | (go_at_call 160; refine Calls.mono hu ?_; rintro e w2 ⟨gn, rfl, hgn, hcw2, hf2⟩)
    | (go_at_call 159; refine Calls.mono (HU.out w2 gn hcw2) ?_; rintro e w3 ⟨g, cap, rfl, hown, hci3, hf3⟩))
  go_ret2
  have hsz : (w.setCell ⟨c, 4, none⟩ (.int .i64 ((C.mi : Int) + 1))).heap.size = w.heap.size := by simp
  have hf1 : Frame (cfoot c mb C) w (w.setCell ⟨c, 4, none⟩ (.int .i64 ((C.mi : Int) + 1))) := Frame.setCell w (p := ⟨c, 4, none⟩) (.int .i64 ((C.mi : Int) + 1)) (.inl rfl)
  have hf12 : Frame (cfoot c mb C) w w2 := hf1.trans (hf2.mono (fun k _ e => by rw [e]; exact .inr (.inl rfl)))
  have hgn' : w.heap.size ≤ gn := by rw [hsz] at hgn; exact hgn
  have hs2 := hf12.size
  have hfr : Frame (cfoot c mb C) w w3 := ⟨hf3.os.trans hf12.os, hf3.tape.trans hf12.tape, hf3.output.trans hf12.output, Nat.le_trans hs2 hf3.size, fun k hk hn => (hf3.block k (by omega) (by show ¬ k = gn; omega)).trans (hf12.block k hk hn)⟩
  refine ⟨g, cap, gn, rfl, hown.base (by omega), hgn', ⟨?_, H.out.di.kept (fun k hk => hfr.block k (H.out.di.in k hk).2 (fun e => H.out.apart k e hk)), H.out.ne⟩, hfr⟩
  have hci4 := hci3
  rw [HO.out gn] at hci4
  exact hci4
end
end Go.Proofs.YtijbbkkapimljaaGreat
