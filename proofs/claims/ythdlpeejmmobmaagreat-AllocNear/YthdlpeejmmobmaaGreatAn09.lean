/- Move Acts Fetch Fetch2 -/
import Derived.Test.YthdlpeejmmobmaaGreatAn08
import Derived.Test.YthdlpeejmmobmaaGreatAn07
import Derived.Deep.DeepCutAuto

/- A buffer that is used goes behind all others. -/
namespace Go.Proofs.YthdlpeejmmobmaaGreat
open Go.RowKit Go.Maps
set_option maxRecDepth 100000
set_option linter.unusedVariables false

def outb (L : List Bf) (b : Nat) : List Bf := L.filter (fun k => !(k.b == b))
theorem mem_outb {L : List Bf} {b : Nat} {k : Bf} : k ∈ outb L b ↔ k ∈ L ∧ ¬ k.b = b := by
  unfold outb
  rw [List.mem_filter]
  simp
theorem outb_perm {L : List Bf} (hd : (L.map (·.b)).Nodup) {f : Bf} (hf : f ∈ L) : (outb L f.b ++ [f]).Perm L := by
  induction L with
  | nil => cases hf
  | cons m L ih =>
    rw [List.map_cons, List.nodup_cons] at hd
    by_cases e : m.b = f.b
    · have hm : m = f := by
        rcases List.mem_cons.1 hf with h | h
        · exact h.symm
        · exact absurd (List.mem_map.2 ⟨f, h, e.symm⟩) hd.1
      subst hm
      have e2 : outb (m :: L) m.b = L := by
        unfold outb
        rw [List.filter_cons]
        simp only [beq_self_eq_true, Bool.not_true, Bool.false_eq_true, if_false]
        rw [List.filter_eq_self]
        intro k hk
        have : ¬ k.b = m.b := fun e' => hd.1 (List.mem_map.2 ⟨k, hk, e'⟩)
        simpa using this
      rw [e2]
      exact List.perm_append_comm
    · have hf' : f ∈ L := by
        rcases List.mem_cons.1 hf with h | h
        · subst h; exact absurd rfl e
        · exact h
      have e2 : outb (m :: L) f.b = m :: outb L f.b := by
        unfold outb
        rw [List.filter_cons]
        have : (!(m.b == f.b)) = true := by simpa using e
        rw [if_pos this]
      rw [e2]
      exact (ih hd.2 hf').cons m
theorem Bm.perm {w : World} {mb : Nat} {M M' : List (Nat × Nat)} (h : Bm w mb M) (hp : M.Perm M') : Bm w mb M' := by
  obtain ⟨D, ho, hs, hk, hat⟩ := h.ex
  refine ⟨⟨D, ho, hs.trans hp.length_eq, fun x hx => ?_, fun p hm => hat p (hp.mem_iff.2 hm)⟩, (hp.map _).nodup_iff.1 h.nd, by rw [← hp.length_eq]; exact h.sm⟩
  obtain ⟨p, hm, e⟩ := hk x hx
  exact ⟨p, hp.mem_iff.1 hm, e⟩

section
variable {B : Nat} {w w' : World} {c mb d N : Nat} {C : Ch}
theorem CW.perm (h : CW B w c mb d N C) {L' : List Bf} (hp : C.L.Perm L') : CW B w c mb d N { C with L := L' } :=
  { row := h.row, map := h.map.perm (hp.map _), buf := fun f hf => h.buf f (hp.mem_iff.2 hf), sec := fun f hf => h.sec f (hp.mem_iff.2 hf), gs := (hp.map _).nodup_iff.1 h.gs, ps := fun f hf => h.ps f (hp.mem_iff.2 hf),
    bs := fun f hf => h.bs f (hp.mem_iff.2 hf), N12 := h.N12, bd := h.bd, len := by show L'.length ≤ _; rw [← hp.length_eq]; exact h.len, lo := ⟨h.lo.1, h.lo.2.1, fun f hf => h.lo.2.2 f (hp.mem_iff.2 hf)⟩, cnt := h.cnt }

theorem CW.map_ne (h : CW B w c mb d N C) {k : Nat} {cs : Array Value} {t : TypeId} {fr : Nat × Nat} (hk : w.heap[k]? = some (.cells cs t fr)) : k ≠ mb := by
  rintro rfl
  obtain ⟨D, ⟨es, cl, ho, _⟩, _⟩ := h.map.ex
  rw [ho] at hk
  cases hk
theorem CW.row_ne (h : CW B w c mb d N C) {f : Bf} (hf : f ∈ C.L) : c ≠ f.g := by
  intro e
  have h1 := h.row
  rw [e, h.buf f hf] at h1
  simp at h1

/-- A cache whose buffer's cell is turned. -/
theorem CW.turned (h : CW B w c mb d N C) {f f' : Bf} (hf : f ∈ C.L) (hb : f'.b = f.b) (hg : f'.g = f.g) (hs : Sect f'.xs) (hp : f'.p ≤ 100) (j : Nat) (v : Value) (hA : (bufA f).setIfInBounds j v = bufA f') :
    CW B (w.setCell ⟨f.g, j, none⟩ v) c mb d N { C with L := YthdlpeejmmobmaaGreat.rep C.L f' } := by
  refine h.rep hf hb hg hs hp (heap_setCell_other _ _ _ _ (h.row_ne hf)) (heap_setCell_other _ _ _ _ (h.map_ne (h.buf f hf)).symm) (fun k hk hne => heap_setCell_other _ _ _ _ hne) ?_
  rw [← hA]
  exact heap_setCell_same w f.g j _ 379 v (h.buf f hf)
theorem buf_froz (h : CW B w c mb d N C) {f : Bf} (hf : f ∈ C.L) (j : Nat) : w.frozen? ⟨f.g, j, none⟩ = false := by
  simp [World.frozen?, h.buf f hf]
theorem row_frozC (h : CW B w c mb d N C) (j : Nat) : w.frozen? ⟨c, j, none⟩ = false := by
  simp [World.frozen?, h.row]
theorem rep_perm {L : List Bf} (hd : (L.map (·.b)).Nodup) {f f' : Bf} (hf : f ∈ L) (hb : f'.b = f.b) : (YthdlpeejmmobmaaGreat.rep L f').Perm (outb L f.b ++ [f']) := by
  have hd' : ((YthdlpeejmmobmaaGreat.rep L f').map (·.b)).Nodup := by rw [rep_map hd hf hb (·.b) hb]; exact hd
  have hf' : f' ∈ YthdlpeejmmobmaaGreat.rep L f' := List.mem_map.2 ⟨f, hf, by rw [if_pos hb.symm]⟩
  have h1 := (outb_perm hd' hf').symm
  have e : outb (YthdlpeejmmobmaaGreat.rep L f') f'.b = outb L f.b := by
    unfold outb YthdlpeejmmobmaaGreat.rep
    rw [List.filter_map, hb]
    have e2 : L.filter ((fun k => !(k.b == f.b)) ∘ fun k => if k.b = f.b then f' else k) = L.filter (fun k => !(k.b == f.b)) := by
      apply List.filter_congr
      intro k hk
      simp only [Function.comp]
      by_cases e : k.b = f.b
      · rw [if_pos e, hb, e]
      · rw [if_neg e]
    rw [e2]
    conv => rhs; rw [← List.map_id (L.filter (fun k => !(k.b == f.b)))]
    apply List.map_congr_left
    intro k hk
    have := (List.mem_filter.1 hk).2
    rw [if_neg (by simpa using this)]
    rfl
  rw [e] at h1
  exact h1

set_option maxRecDepth 100000 in
set_option maxHeartbeats 1000000 in
/-- use: a block that is held, and that was just hit or fetched. -/
theorem use_ok (h : CW B w c mb d N C) {f : Bf} (hf : f ∈ C.L) (hu : ∀ k ∈ C.L, ¬ k.b = f.b → k.u < C.hi + C.mi) (ho : (outb C.L f.b).Pairwise (fun a b => a.u < b.u)) :
    Calls Tryz.prog 205 #[.pointer (some ⟨c, 0, none⟩), .int .i64 (f.b : Int)] w fun e w' => ∃ g cap, e = .returned (.slice (some ⟨g, 0, none⟩) 128 cap) ∧ Own w.heap.size w' g 128 cap f.xs ∧
      CI B w' c mb d N { C with L := outb C.L f.b ++ [{ f with u := C.hi + C.mi }] } ∧ Frame (fun k => k = f.g) w w' := by
  have hcnt := h.cnt
  have hcw := h.turned hf (f' := { f with u := C.hi + C.mi }) rfl rfl (h.sec f hf) (h.ps f hf) 128 (.int .i64 ((C.hi + C.mi : Nat) : Int)) (bufA_used (h.sec f hf) _)
  have hci : CI B (w.setCell ⟨f.g, 128, none⟩ (.int .i64 ((C.hi + C.mi : Nat) : Int))) c mb d N { C with L := outb C.L f.b ++ [{ f with u := C.hi + C.mi }] } := by
    refine { CW.perm hcw (rep_perm h.bnd hf rfl) with ord := ?_, us := ?_ }
    · show (outb C.L f.b ++ [_]).Pairwise _
      rw [List.pairwise_append]
      refine ⟨ho, by simp, ?_⟩
      intro a ha b hb
      simp at hb
      subst hb
      obtain ⟨h1, h2⟩ := mem_outb.1 ha
      exact hu a h1 h2
    · intro k hk
      rcases List.mem_append.1 hk with hk | hk
      · obtain ⟨h1, h2⟩ := mem_outb.1 hk
        have := hu k h1 h2
        show k.u ≤ C.hi + C.mi
        omega
      · simp at hk
        subst hk
        exact Nat.le_refl _
  have hfr : Frame (fun k => k = f.g) w (w.setCell ⟨f.g, 128, none⟩ (.int .i64 ((C.hi + C.mi : Nat) : Int))) := Frame.setCell w (p := ⟨f.g, 128, none⟩) _ rfl
  have hbi : BI (w.setCell ⟨f.g, 128, none⟩ (.int .i64 ((C.hi + C.mi : Nat) : Int))) (some ⟨f.g, 0, none⟩) 128 f.xs := buf_bi (f := { f with u := C.hi + C.mi }) (hci.buf _ (by simp)) (h.sec f hf)
  rw [show ((C.hi + C.mi : Nat) : Int) = (C.hi : Int) + (C.mi : Int) by omega] at hci hfr hbi
  have c2 := h.c2
  have c3 := h.c3
  have c4 := h.c4
  have hl := h.hit hf
  have hus := h.used hf
  have hfz := buf_froz h hf 128
  have HC := (show Hid _ from hci)
  have hh0 : (0 : Int) ≤ (C.hi : Int) := by omega
  have hm0 : (0 : Int) ≤ (C.mi : Int) := by omega
  have hsum : (C.hi : Int) + (C.mi : Int) ≤ 4611686018427387904 := by omega
  have hcl := fun q => sclone_some ⟨f.g, 0, none⟩ 128 128 f.xs _ (hbi.kept (below_drewN (Below.refl _ _) q))
  have HQ := (show Hid _ from hcl)
  clear hci hcw h hbi hcl hu ho
  go_enter Tryz.func205, Tryz.ntmps205
  go_wp2_with fail
  go_region
  go_wp2_with (first | (go_at_call 124; refine Calls.mono (HQ.out 1) ?_; rintro e w2 ⟨g, cap, rfl, hown, hb2⟩))
  go_ret
  exact ⟨g, cap, rfl, hown.base (by simp), HC.out.later (below_drewN (Below.refl _ _) 1) |>.later hb2, (frame_drewN hfr 1).trans (frame_of_below hb2)⟩
end
end Go.Proofs.YthdlpeejmmobmaaGreat

/- What each call does to a disk, said once, and that both disks do it. -/
namespace Go.Proofs.YthdlpeejmmobmaaGreat
open Go.RowKit Go.Maps
set_option maxRecDepth 100000

def aWrite (S : St) (b : Int) (n : Nat) (xs : List Int) : Int × Int × St :=
  if ¬ (0 ≤ b ∧ b < S.N) ∨ n ≠ 128 then (0, 1, S)
  else if (S.q.any fun y => (y.block : Int) == b) = true then (0, 21, S)
  else if 64 ≤ S.q.length then (0, 3, S)
  else (S.last + 1, 0, S.put b.toNat xs)
def aDone (S : St) (id : Int) (ok : Bool) : Int × St :=
  match S.q.findIdx? (fun y => y.id == id) with
  | none => (20, S)
  | some i => match S.q[i]? with
    | none => (20, S)
    | some y => (if ok then 0 else 4, S.done i y ok)
def aRead (S : St) (b : Int) : Nat × List Int × Int × St :=
  if ¬ (0 ≤ b ∧ b < S.N) then (0, [], 1, S)
  else if 0 < S.fl b.toNat then (0, [], 4, { S with fl := upd S.fl b.toNat (S.fl b.toNat - 1) })
  else (128, S.f b.toNat, 0, S)
def aFail (S : St) (b t : Int) : Int × St :=
  if ¬ (0 ≤ b ∧ b < S.N) ∨ t < 0 ∨ 1000 < t then (1, S) else (0, { S with fl := upd S.fl b.toNat t })
/-- What a disk has is well formed. -/
structure Ok (S : St) : Prop where
  N1 : 1 ≤ S.N
  N2 : S.N ≤ 2048
  q64 : S.q.length ≤ 64
  qok : ∀ x ∈ S.q, x.block < S.N ∧ Sect x.bytes ∧ -9223372036854775808 ≤ x.id ∧ x.id ≤ 9223372036854775807
  lok : 0 ≤ S.last ∧ S.last ≤ 9223372036854775807
  sec : ∀ b, Sect (S.f b)
  fl : ∀ b, 0 ≤ S.fl b ∧ S.fl b ≤ 1000

theorem own_ty {B : Nat} {w : World} {e : TypeId} {s n : Nat} {v : Value} {L : List Value} (h : w.ownsRow B e s v n L) {k : Nat} (hk : v.ownBlock = some k) : ∃ cs, w.heap[k]? = some (.cells cs e (0, 0)) := by
  rcases h.2 with ⟨rfl, _⟩ | ⟨g1, cap1, cur1, rfl, _, hg1, _⟩
  · simp [Value.ownBlock] at hk
  · simp only [Value.ownBlock, Option.some.injEq] at hk
    subst hk
    exact ⟨_, hg1⟩

theorem find_of_idxA {t : Wr → Bool} : ∀ {q : List Wr} {i : Nat}, q.findIdx? t = some i → ∃ x, q[i]? = some x ∧ q.find? t = some x
  | [], i, h => by simp at h
  | y :: r, i, h => by
    rw [List.findIdx?_cons] at h
    by_cases hy : t y = true
    · rw [if_pos hy] at h
      cases h
      exact ⟨y, rfl, by simp [hy]⟩
    · rw [if_neg hy] at h
      obtain ⟨k, hk, rfl⟩ := Option.map_eq_some_iff.1 h
      obtain ⟨x, h1, h2⟩ := find_of_idxA hk
      exact ⟨x, by simpa using h1, by simp [hy, h2]⟩

section
variable {B : Nat} {w w' : World} {a mb fb : Nat} {dq : Value} {S : St}

theorem foot_new {dq' : Value} {H : Nat} (hq : ∀ k, dq'.ownBlock = some k → dq.ownBlock = some k ∨ H ≤ k) : ∀ k, foot a mb fb dq' k → foot a mb fb dq k ∨ H ≤ k := by
  rintro k (e | e | e | e)
  · exact .inl (.inl e)
  · exact .inl (.inr (.inl e))
  · exact .inl (.inr (.inr (.inl e)))
  · rcases hq k e with h | h
    · exact .inl (.inr (.inr (.inr h)))
    · exact .inr h

theorem dRead (h : DI B w a mb fb dq S) (b : Int) :
    Calls Tryz.prog 269 #[.pointer (some ⟨a, 0, none⟩), .int .i64 b] w fun e w' => ∃ p c, e = .returned (.tuple #[.slice p (aRead S b).1 c, .int .i64 (aRead S b).2.2.1]) ∧ w'.ownsRow w.heap.size 5 1 (.slice p (aRead S b).1 c) (aRead S b).1 ((aRead S b).2.1.map (Value.int .u8)) ∧ DI B w' a mb fb dq (aRead S b).2.2.2 ∧ Frame (foot a mb fb dq) w w' := by
  unfold aRead
  by_cases h1 : ¬ (0 ≤ b ∧ b < S.N)
  · rw [if_pos h1]
    exact (read_arg h b h1).mono fun e w' ⟨he, hw⟩ => ⟨none, 0, he, World.ownsRow_nil _ _ _ _, hw ▸ h, hw ▸ Frame.refl _ _⟩
  · rw [if_neg h1]
    obtain ⟨b, rfl⟩ : ∃ m : Nat, b = m := ⟨b.toNat, by omega⟩
    have hb : b < S.N := by omega
    simp only [Int.toNat_natCast]
    by_cases h2 : 0 < S.fl b
    · rw [if_pos h2]
      exact (read_fails h b hb h2).mono fun e w' ⟨he, hd, hf⟩ => ⟨none, 0, he, World.ownsRow_nil _ _ _ _, hd, hf⟩
    · rw [if_neg h2]
      have h0 : S.fl b = 0 := by have := h.fls.all b; omega
      exact (read_ok h b hb h0).mono fun e w' ⟨g, he, ho, hb'⟩ => ⟨_, _, he, ho, h.later hb', frame_of_below hb'⟩

end

section
variable {B : Nat} {w w' : World} {x : Nat} {bv qv fv : Value} {gB gQ : List (Nat × Nat)} {S : St}

end

theorem aWrite_last (S : St) (b : Int) (n : Nat) (xs : List Int) : (aWrite S b n xs).2.2.last ≤ S.last + 1 := by
  unfold aWrite
  split
  · show S.last ≤ _; omega
  · split
    · show S.last ≤ _; omega
    · split
      · show S.last ≤ _; omega
      · exact Int.le_refl _
theorem aDone_last (S : St) (id : Int) (ok : Bool) : (aDone S id ok).2.last = S.last := by
  unfold aDone
  split
  · rfl
  · split <;> rfl
theorem aRead_last (S : St) (b : Int) : (aRead S b).2.2.2.last = S.last := by
  unfold aRead
  split
  · rfl
  · split <;> rfl
theorem aFail_last (S : St) (b t : Int) : (aFail S b t).2.last = S.last := by
  unfold aFail
  split <;> rfl
end Go.Proofs.YthdlpeejmmobmaaGreat

/- A cache over a disk; a block that is fetched. -/
namespace Go.Proofs.YthdlpeejmmobmaaGreat
open Go.RowKit Go.Maps
set_option maxRecDepth 100000
set_option linter.unusedVariables false

/-- A cache and the disk below it. -/
structure CD (B : Nat) (w : World) (c mb d dm df : Nat) (dq : Value) (C : Ch) (S : St) : Prop where
  ci : CI B w c mb d S.N C
  di : DI B w d dm df dq S
  ne : mb ≠ dm ∧ mb ≠ df

section
variable {B : Nat} {w w' : World} {c mb d dm df : Nat} {dq : Value} {C : Ch} {S : St}
theorem CW.tys {N : Nat} (h : CW B w c mb d N C) {k : Nat} (hk : cfoot c mb C k) : k = mb ∨ ∃ cs t, w.heap[k]? = some (.cells cs t (0, 0)) ∧ (t = 323 ∨ t = 379) := by
  rcases hk with rfl | rfl | ⟨f, hf, rfl⟩
  · exact .inr ⟨_, _, h.row, .inl rfl⟩
  · exact .inl rfl
  · exact .inr ⟨_, _, h.buf f hf, .inr rfl⟩
theorem CW.apart {N : Nat} (h : CW B w c mb d N C) (hd : DI B w d dm df dq S) (hne : mb ≠ dm ∧ mb ≠ df) : ∀ k, cfoot c mb C k → ¬ foot d dm df dq k := by
  intro k hk hf
  obtain ⟨D, ⟨es, ck, hm, _⟩, _⟩ := hd.secs.ex
  obtain ⟨D', ⟨es', ck', hm', _⟩, _⟩ := hd.fls.ex
  obtain ⟨D2, ⟨es2, ck2, hm2, _⟩, _⟩ := h.map.ex
  rcases h.tys hk with rfl | ⟨cs, t, hc, ht⟩
  · rcases hf with rfl | rfl | rfl | hq
    · rw [hd.row] at hm2; cases hm2
    · exact hne.1 rfl
    · exact hne.2 rfl
    · obtain ⟨cs, hc⟩ := own_ty hd.que hq
      rw [hc] at hm2; cases hm2
  · rcases hf with rfl | rfl | rfl | hq
    · rw [hd.row] at hc
      simp only [Option.some.injEq, Obj.cells.injEq] at hc
      rcases ht with rfl | rfl
      · exact absurd hc.2.1 (by decide)
      · exact absurd hc.2.1 (by decide)
    · rw [hm] at hc; cases hc
    · rw [hm'] at hc; cases hc
    · obtain ⟨cs', hc'⟩ := own_ty hd.que hq
      rw [hc'] at hc
      simp only [Option.some.injEq, Obj.cells.injEq] at hc
      rcases ht with rfl | rfl
      · exact absurd hc.2.1 (by decide)
      · exact absurd hc.2.1 (by decide)
theorem CD.apart (h : CD B w c mb d dm df dq C S) : ∀ k, cfoot c mb C k → ¬ foot d dm df dq k := CW.apart h.ci.toCW h.di h.ne
theorem CD.later (h : CD B w c mb d dm df dq C S) (hb : Below w.heap.size w w') : CD B w' c mb d dm df dq C S := ⟨h.ci.later hb, h.di.later hb, h.ne⟩
theorem CD.read (h : CD B w c mb d dm df dq C S) {S' : St} (hN : S'.N = S.N) (hd : DI B w' d dm df dq S') (hf : Frame (foot d dm df dq) w w') : CD B w' c mb d dm df dq C S' :=
  ⟨hN ▸ h.ci.kept (fun k hk => hf.block k (h.ci.in k hk).2 (h.apart k hk)), hd, h.ne⟩
theorem aRead_N (S : St) (b : Int) : (aRead S b).2.2.2.N = S.N := by
  unfold aRead
  split
  · rfl
  · split <;> rfl

def zbuf (g : Nat) : Bf := ⟨0, 0, 0, g, zer⟩
theorem build90 (w : World) : (Instr.build 379 #[]).run Tryz.prog w = .ok (.agg (bufA (zbuf 0))) w := by kernel_rfl
theorem len54 {N : Nat} (h : CW B w c mb d N C) (ty : TypeId) : (Builtin.len_ #[321] ty #[.map (some mb)]).run Tryz.prog w = .ok (.int .i64 (C.L.length : Int)) w := by
  obtain ⟨D, ho, hs, _⟩ := h.map.ex
  rw [ho.len Tryz.underlying321 ty, hs]
  simp

set_option maxRecDepth 100000 in
set_option maxHeartbeats 1000000 in
theorem fetch_pinned (h : CD B w c mb d dm df dq C S) (b : Nat) (hb : b < S.N) (hfull : C.bd ≤ C.L.length) (hv : vic C.L = none) :
    Calls Tryz.prog 206 #[.pointer (some ⟨c, 0, none⟩), .int .i64 (b : Int)] w fun e w' => e = .returned (.int .i64 60) ∧ Below w.heap.size w w' := by
  have c2 := h.ci.c2
  have c1 := h.ci.c1
  have hlen : ∀ q, (Builtin.len_ #[321] 3 #[.map (some mb)]).run Tryz.prog (w.drewN q) = .ok (.int .i64 (C.L.length : Int)) (w.drewN q) := fun q => len54 (h.ci.later (below_drewN (Below.refl _ _) q)).toCW 3
  have hfI : (C.bd : Int) ≤ (C.L.length : Int) := by omega
  have hold := fun q => oldest_ok (h.ci.later (below_drewN (Below.refl _ _) q))
  have eV : vicV C.L = .tuple #[.int .i64 0, .bool false] := by unfold vicV; rw [hv]
  rw [eV] at hold
  have HO := (show Hid _ from hold)
  clear hold h hv eV
  go_enter Tryz.func206, Tryz.ntmps206
  go_wp2_with fail
  go_quiet (fail)
  go_wp2_with (first | (go_at_call 268; refine Calls.mono (HO.out _) ?_; rintro e w1 ⟨rfl, hb1⟩))
  go_ret
  exact ⟨rfl, (below_drewN (Below.refl _ w) _).trans (hb1.mono (Nat.le_refl _))⟩

/-- Whether there is no room, and which one goes then. -/
def canGo (C : Ch) : Prop := C.bd ≤ C.L.length → ∃ f, vic C.L = some f

theorem vicV_ok {L : List Bf} : ∃ x y, vicV L = .tuple #[.int .i64 x, .bool y] ∧ (y = (vic L).isSome) ∧ (∀ f, vic L = some f → x = (f.b : Int)) := by
  unfold vicV
  cases h : vic L with
  | none => exact ⟨0, false, rfl, rfl, fun f e => by cases e⟩
  | some f => exact ⟨_, true, rfl, rfl, fun k e => by cases e; rfl⟩

set_option maxRecDepth 100000 in
set_option maxHeartbeats 1000000 in
theorem fetch_err (h : CD B w c mb d dm df dq C S) (b : Nat) (hb : b < S.N) (hg : canGo C) (hr : ¬ (aRead S b).2.2.1 = 0) :
    Calls Tryz.prog 206 #[.pointer (some ⟨c, 0, none⟩), .int .i64 (b : Int)] w fun e w' => e = .returned (.int .i64 (aRead S b).2.2.1) ∧ CD B w' c mb d dm df dq C (aRead S b).2.2.2 ∧ Frame (foot d dm df dq) w w' := by
  have c2 := h.ci.c2
  have c1 := h.ci.c1
  have hlen : ∀ q, (Builtin.len_ #[321] 3 #[.map (some mb)]).run Tryz.prog (w.drewN q) = .ok (.int .i64 (C.L.length : Int)) (w.drewN q) := fun q => len54 (h.ci.later (below_drewN (Below.refl _ _) q)).toCW 3
  have hold := fun q => oldest_ok (h.ci.later (below_drewN (Below.refl _ _) q))
  obtain ⟨vx, vy, eV, hvy, hvx⟩ := @vicV_ok C.L
  rw [eV] at hold
  have hgo : decide ((C.bd : Int) ≤ (C.L.length : Int)) = true → vy = true := by
    intro hd
    obtain ⟨f, hf⟩ := hg (by have := of_decide_eq_true hd; omega)
    rw [hvy, hf]
    rfl
  have hread := fun w1 (hb1 : Below w.heap.size w w1) => dRead (h.later hb1).di (b : Int)
  have HRN := aRead_N S (b : Int)
  have H := (show Hid _ from h)
  have HO := (show Hid _ from hold)
  have HR := (show Hid _ from hread)
  generalize (aRead S (b : Int)).2.2.1 = er at *
  have hr' : (er != 0) = true := by rw [bne_iff_ne]; exact hr
  clear hold h hread eV hvy hvx hg
  by_cases hfull : C.bd ≤ C.L.length
  · have hfI : (C.bd : Int) ≤ (C.L.length : Int) := by omega
    obtain rfl : vy = true := hgo (decide_eq_true hfI)
    clear hgo
    go_enter Tryz.func206, Tryz.ntmps206
    go_wp2_with fail
    go_quiet (fail)
    go_wp2_with (first
      | (go_at_call 268; refine Calls.mono (HO.out _) ?_; rintro e w1 ⟨rfl, hb1⟩; have hb1 := (below_drewN (Below.refl w.heap.size w) nq).trans (hb1.mono (Nat.le_refl _)); have c0 := (H.out.later hb1).ci.c0)
      | (go_at_call 269; refine Calls.mono (HR.out _ hb1) ?_; rintro e w2 ⟨p, cp, rfl, hown, hd2, hf2⟩))
    go_ret
    exact ⟨rfl, (H.out.later hb1).read HRN hd2 hf2, (frame_of_below hb1).trans hf2⟩
  · have hfI : ¬ (C.bd : Int) ≤ (C.L.length : Int) := by omega
    have hfd : decide ((C.bd : Int) ≤ (C.L.length : Int)) = false := decide_eq_false hfI
    have hfJ : (C.L.length : Int) < (C.bd : Int) := by omega
    have hfK : decide (C.bd ≤ C.L.length) = false := decide_eq_false hfull
    clear hgo
    go_enter Tryz.func206, Tryz.ntmps206
    go_wp2_with fail
    go_quiet (fail)
    go_wp2_with (first
      | (go_at_call 268; refine Calls.mono (HO.out _) ?_; rintro e w1 ⟨rfl, hb1⟩; have hb1 := (below_drewN (Below.refl w.heap.size w) nq).trans (hb1.mono (Nat.le_refl _)); have c0 := (H.out.later hb1).ci.c0)
      | (go_at_call 269; refine Calls.mono (HR.out _ hb1) ?_; rintro e w2 ⟨p, cp, rfl, hown, hd2, hf2⟩))
    go_ret
    exact ⟨rfl, (H.out.later hb1).read HRN hd2 hf2, (frame_of_below hb1).trans hf2⟩
end
end Go.Proofs.YthdlpeejmmobmaaGreat

/- A block that is fetched: its buffer is made, another one goes where there is no room. -/
namespace Go.Proofs.YthdlpeejmmobmaaGreat
open Go.RowKit Go.Maps
set_option maxRecDepth 100000
set_option linter.unusedVariables false

/-- The buffers that stay when another one is to come. -/
def room (C : Ch) : List Bf := if C.bd ≤ C.L.length then (match vic C.L with | some f => outb C.L f.b | none => C.L) else C.L

section
variable {B : Nat} {w w' : World} {c mb d dm df N : Nat} {dq : Value} {C : Ch} {S : St}
theorem outb_map (L : List Bf) (b : Nat) : (outb L b).map bg = (L.map bg).filter (fun p => !(p.1 == b)) := by
  unfold outb
  rw [List.filter_map]
  rfl
theorem sub_outb (L : List Bf) (b : Nat) : (outb L b).Sublist L := List.filter_sublist
theorem CW.out (h : CW B w c mb d N C) (b : Nat) (hb : b < N) (ty : TypeId) : ∃ w', (Builtin.delete_ #[321, 3] ty #[.map (some mb), .int .i64 (b : Int)]).run Tryz.prog w = .ok (.tuple #[]) w' ∧ CW B w' c mb d N { C with L := outb C.L b } ∧ w.grownBy w' (some mb) := by
  obtain ⟨w', hr, hm, hg⟩ := h.map.delete b (by have := h.N12; omega) ty
  have hk : ∀ k, k < w.heap.size → k ≠ mb → w'.heap[k]? = w.heap[k]? := fun k hk hne => hg.block k hk (by simpa using hne)
  refine ⟨w', hr, ?_, hg⟩
  have hsub := sub_outb C.L b
  exact { row := (hk c (Array.getElem?_eq_some_iff.1 h.row).1 (h.map_ne h.row)).trans h.row
          map := by show Bm w' mb ((outb C.L b).map bg); rw [outb_map]; exact hm
          buf := fun f hf => (hk f.g (Array.getElem?_eq_some_iff.1 (h.buf f (hsub.subset hf))).1 (h.map_ne (h.buf f (hsub.subset hf)))).trans (h.buf f (hsub.subset hf))
          sec := fun f hf => h.sec f (hsub.subset hf)
          gs := List.Nodup.sublist (hsub.map _) h.gs
          ps := fun f hf => h.ps f (hsub.subset hf)
          bs := fun f hf => h.bs f (hsub.subset hf)
          N12 := h.N12, bd := h.bd, len := Nat.le_trans hsub.length_le h.len, lo := ⟨h.lo.1, h.lo.2.1, fun f hf => h.lo.2.2 f (hsub.subset hf)⟩, cnt := h.cnt }

/-- A buffer more. -/
theorem CW.add (h : CW B w c mb d N C) {f : Bf} (hfb : f.b < N) (hno : ∀ k ∈ C.L, ¬ k.b = f.b) (hl : C.L.length < C.bd) (hs : Sect f.xs) (hp : f.p ≤ 100) (hB : B ≤ f.g) (hgn : ∀ k ∈ C.L, ¬ k.g = f.g)
    (hc : w'.heap[c]? = w.heap[c]?) (hm : Bm w' mb (C.L.map bg ++ [(f.b, f.g)])) (ho : ∀ k ∈ C.L, w'.heap[k.g]? = w.heap[k.g]?) (hn : w'.heap[f.g]? = some (.cells (bufA f) 379 (0, 0))) : CW B w' c mb d N { C with L := C.L ++ [f] } := by
  have key : ∀ {P : Bf → Prop}, (∀ k ∈ C.L, P k) → P f → ∀ k ∈ C.L ++ [f], P k := fun h1 h2 k hk => by
    rcases List.mem_append.1 hk with hk | hk
    · exact h1 k hk
    · simp at hk; subst hk; exact h2
  refine { row := hc.trans h.row, map := ?_, buf := key (fun k hk => (ho k hk).trans (h.buf k hk)) hn, sec := key h.sec hs, gs := ?_, ps := key h.ps hp, bs := key h.bs hfb, N12 := h.N12, bd := h.bd, len := ?_, lo := ⟨h.lo.1, h.lo.2.1, key h.lo.2.2 hB⟩, cnt := h.cnt }
  · show Bm w' mb ((C.L ++ [f]).map bg)
    rw [List.map_append]
    exact hm
  · show ((C.L ++ [f]).map (·.g)).Nodup
    rw [List.map_append, List.nodup_append]
    refine ⟨h.gs, by simp, ?_⟩
    intro a ha x hx e
    simp at hx
    obtain ⟨k, hk, rfl⟩ := List.mem_map.1 ha
    exact hgn k hk (by omega)
  · show (C.L ++ [f]).length ≤ C.bd
    simp
    omega

theorem room_sub (C : Ch) : (room C).Sublist C.L := by
  unfold room
  split
  · split
    · exact sub_outb _ _
    · exact List.Sublist.refl _
  · exact List.Sublist.refl _
theorem room_len (h : CW B w c mb d N C) (hg : canGo C) : (room C).length < C.bd := by
  unfold room
  have hbd := h.bd
  have hl := h.len
  split
  · rename_i hf
    obtain ⟨f, hv⟩ := hg hf
    rw [hv]
    have hm : f ∈ C.L := List.mem_of_find?_eq_some hv
    have := (outb_perm h.bnd hm).length_eq
    simp at this
    show (outb C.L f.b).length < C.bd
    omega
  · omega

theorem zero90 : Tryz.zeroCells379 = (bufL (zbuf 0)).toArray := by kernel_rfl
theorem zbuf_splice (xs : List Int) (hs : Sect xs) (g b : Nat) : splice (bufL (zbuf 0)) 0 (xs.map (Value.int .u8)) = bufL ⟨b, 0, 0, g, xs⟩ := by
  have hl := hs.1
  unfold splice bufL zbuf
  simp [hl, zer_len]

set_option maxRecDepth 100000 in
set_option maxHeartbeats 2000000 in
theorem fetch_ok (h : CD B w c mb d dm df dq C S) (hS : Ok S) (b : Nat) (hb : b < S.N) (hno : ∀ k ∈ C.L, ¬ k.b = b) (hg : canGo C) (h0 : S.fl b = 0) :
    Calls Tryz.prog 206 #[.pointer (some ⟨c, 0, none⟩), .int .i64 (b : Int)] w fun e w' => ∃ g, e = .returned (.int .i64 0) ∧ w.heap.size ≤ g ∧ CW B w' c mb d S.N { C with L := room C ++ [⟨b, 0, 0, g, S.f b⟩] } ∧ Frame (fun k => k = mb) w w' := by
  have c2 := h.ci.c2
  have c1 := h.ci.c1
  have hlen : ∀ q, (Builtin.len_ #[321] 3 #[.map (some mb)]).run Tryz.prog (w.drewN q) = .ok (.int .i64 (C.L.length : Int)) (w.drewN q) := fun q => len54 (h.ci.later (below_drewN (Below.refl _ _) q)).toCW 3
  have hold := fun q => oldest_ok (h.ci.later (below_drewN (Below.refl _ _) q))
  obtain ⟨vx, vy, eV, hvy, hvx⟩ := @vicV_ok C.L
  rw [eV] at hold
  have hread := fun w1 (hb1 : Below w.heap.size w w1) => read_ok (h.later hb1).di b hb h0
  have H := (show Hid _ from h)
  have HO := (show Hid _ from hold)
  have HR := (show Hid _ from hread)
  have HG := (show Hid _ from hg)
  have hrl := room_len h.ci.toCW hg
  have hvN := h.ci.N12
  have hbd64 := h.ci.bd
  clear hold h hread eV hg
  have hdel : C.bd ≤ C.L.length → vy = true ∧ ∃ f, vic C.L = some f ∧ vx = (f.b : Int) ∧ f ∈ C.L := by
    intro hf
    obtain ⟨f, hv⟩ := HG.out hf
    exact ⟨by rw [hvy, hv]; rfl, f, hv, hvx f hv, List.mem_of_find?_eq_some hv⟩
  clear hvy hvx
  go_enter Tryz.func206, Tryz.ntmps206
  by_cases hfull : C.bd ≤ C.L.length
  · have hfI : (C.bd : Int) ≤ (C.L.length : Int) := by omega
    obtain ⟨rfl, f, hv, rfl, hfm⟩ := hdel hfull
    clear hdel
    have hfb := H.out.ci.bs f hfm
    go_wp2_with fail
    go_quiet (fail)
    go_upto_region 10 with (first
      | (go_at_call 268; refine Calls.mono (HO.out _) ?_; rintro e w1 ⟨rfl, hb1⟩; have hb1 := (below_drewN (Below.refl w.heap.size w) nq).trans (hb1.mono (Nat.le_refl _)); have c0 := (H.out.later hb1).ci.c0)
      | (go_at_call 269; refine Calls.mono (HR.out _ hb1) ?_; rintro e w2 ⟨gx, rfl, hown, hb2⟩; have hb2 := hb1.trans (hb2.mono hb1.size); have c2 := (H.out.later hb2).ci.c2; obtain ⟨w3, hr3, hcw3, hg3⟩ := CW.out (H.out.later hb2).ci.toCW f.b hfb 0))
    have hfr3 : Frame (fun k => k = mb) w w3 := (frame_of_below hb2).trans (frame_of_grown hg3 (fun k hk => by cases hk; rfl))
    have hx3 : BI w3 (some ⟨gx, 0, none⟩) 128 (S.f b) := by
      have ho3 : Own w1.heap.size w3 gx 128 128 (S.f b) := by
        refine ownsRow_kept hown (fun k hk => hg3.block k (hown.lt k hk).2 ?_)
        intro e
        obtain ⟨cs, hc⟩ := own_ty hown hk
        exact (H.out.later hb2).ci.map_ne hc (by simpa using e)
      exact ho3.bi (by omega) (hS.sec b).2
    have eR : room C = outb C.L f.b := by unfold room; rw [if_pos hfull, hv]
    have hsubR := sub_outb C.L f.b
    rw [eR] at hrl
    have HE := (show Hid _ from eR)
    clear eR
    clear hr3 hown hb1 hg3
    have hz90 := zero90
    have hrow4 : (w3.alloc (.cells Tryz.zeroCells379 379)).heap[w3.heap.size]? = some (.cells (bufL (zbuf 0)).toArray 379 (0, 0)) := by
      rw [hz90]; exact World.alloc_heap_new w3 _
    have hb4 : Below w3.heap.size w3 (w3.alloc (.cells Tryz.zeroCells379 379)) := (Below.refl _ _).alloc (Nat.le_refl _) _
    have hsx := hS.sec b
    clear hlen c0 c1 c2 HO HR hz90
    go_wp2_with (first
      | (refine wpList_copy_splice rfl _ _ 42 42 rfl 5 Tryz.underlying42 size5 _ _ _ _ _ _ rfl rfl w3.heap.size 0 _ 379 hrow4 ((S.f b).map (Value.int .u8)) ?c1 ?c2 ?c3 ?c4 w3.heap.size w3 hb4 (Nat.le_refl _) ?_))
    case c1 => simp [hsx.1]
    case c2 =>
      intro hp j a hj
      obtain ⟨b', o', e, hcc⟩ := (hx3.kept hb4).cells (by omega)
      cases e
      have hjl := (List.getElem?_eq_some_iff.1 hj).1
      have := hcc j (by rw [← hsx.1]; exact hjl)
      rw [Nat.zero_add, List.getD_eq_getElem?_getD, hj] at this
      exact this
    case c3 => simp [bufL, zbuf, zer_len, hsx.1]
    case c4 => exact one_cells _
    intro w5 hg5 hb5
    have hrow5 := hg5.out
    rw [zbuf_splice (S.f b) hsx w3.heap.size b] at hrow5
    have hcw5 := hcw3.later hb5
    obtain ⟨w6, hr6, hm6, hg6⟩ := hcw5.map.update b w3.heap.size (by
      intro p hp
      obtain ⟨k, hk, rfl⟩ := List.mem_map.1 hp
      exact hno k (hsubR.subset hk)) (by omega) (by simp only [List.length_map]; omega)
    have hk6 : ∀ k, k < w5.heap.size → k ≠ mb → w6.heap[k]? = w5.heap[k]? := fun k hk hne => hg6.block k hk (by simpa using hne)
    have hlt5 := (Array.getElem?_eq_some_iff.1 hrow5).1
    have hadd := CW.add (f := ⟨b, 0, 0, w3.heap.size, S.f b⟩) hcw5 hb (fun k hk => hno k (hsubR.subset hk)) hrl hsx (by show 0 ≤ 100; omega) (Nat.le_trans hcw3.lo.1 (Nat.le_of_lt (Array.getElem?_eq_some_iff.1 hcw3.row).1))
      (fun k hk => by have := (Array.getElem?_eq_some_iff.1 (hcw3.buf k hk)).1; show ¬ k.g = w3.heap.size; omega) (hk6 c (Array.getElem?_eq_some_iff.1 hcw5.row).1 (hcw5.map_ne hcw5.row)) hm6 (fun k hk => hk6 k.g (Array.getElem?_eq_some_iff.1 (hcw5.buf k hk)).1 (hcw5.map_ne (hcw5.buf k hk)))
      ((hk6 w3.heap.size hlt5 (hcw5.map_ne hrow5)).trans hrow5)
    have c2 := hcw5.c2
    have HA := (show Hid _ from hadd)
    have hfin := (hfr3.trans (frame_of_below hb5)).trans (frame_of_grown (X := fun k => k = mb) hg6 (fun k hk => by cases hk; rfl))
    clear hadd hm6 hcw5 hcw3 hrow5 hrow4 hg5
    go_wp2_with fail
    go_ret
    first
      | exact ⟨rfl, w3.heap.size, by have := hfr3.size; omega, by rw [HE.out]; exact HA.out, hfin⟩
      | exact ⟨w3.heap.size, rfl, by have := hfr3.size; omega, by rw [HE.out]; exact HA.out, hfin⟩
  · have hfI : ¬ (C.bd : Int) ≤ (C.L.length : Int) := by omega
    have hfd : decide ((C.bd : Int) ≤ (C.L.length : Int)) = false := decide_eq_false hfI
    have hfJ : (C.L.length : Int) < (C.bd : Int) := by omega
    have hfK : decide (C.bd ≤ C.L.length) = false := decide_eq_false hfull
    clear hdel
    go_wp2_with fail
    go_quiet (fail)
    go_upto_region 10 with (first
      | (go_at_call 268; refine Calls.mono (HO.out _) ?_; rintro e w1 ⟨rfl, hb1⟩; have hb1 := (below_drewN (Below.refl w.heap.size w) nq).trans (hb1.mono (Nat.le_refl _)); have c0 := (H.out.later hb1).ci.c0)
      | (go_at_call 269; refine Calls.mono (HR.out _ hb1) ?_; rintro e w3 ⟨gx, rfl, hown, hb2⟩; have hb2 := hb1.trans (hb2.mono hb1.size)))
    have hcw3 := (H.out.later hb2).ci.toCW
    have hfr3 : Frame (fun k => k = mb) w w3 := frame_of_below hb2
    have hx3 : BI w3 (some ⟨gx, 0, none⟩) 128 (S.f b) := hown.bi (by omega) (hS.sec b).2
    have eR : room C = C.L := by unfold room; rw [if_neg hfull]
    have hsubR := List.Sublist.refl C.L
    rw [eR] at hrl
    have HE := (show Hid _ from eR)
    clear eR
    clear hown hb1
    have hz90 := zero90
    have hrow4 : (w3.alloc (.cells Tryz.zeroCells379 379)).heap[w3.heap.size]? = some (.cells (bufL (zbuf 0)).toArray 379 (0, 0)) := by
      rw [hz90]; exact World.alloc_heap_new w3 _
    have hb4 : Below w3.heap.size w3 (w3.alloc (.cells Tryz.zeroCells379 379)) := (Below.refl _ _).alloc (Nat.le_refl _) _
    have hsx := hS.sec b
    clear hlen c0 c1 c2 HO HR hz90
    go_wp2_with (first
      | (refine wpList_copy_splice rfl _ _ 42 42 rfl 5 Tryz.underlying42 size5 _ _ _ _ _ _ rfl rfl w3.heap.size 0 _ 379 hrow4 ((S.f b).map (Value.int .u8)) ?c1 ?c2 ?c3 ?c4 w3.heap.size w3 hb4 (Nat.le_refl _) ?_))
    case c1 => simp [hsx.1]
    case c2 =>
      intro hp j a hj
      obtain ⟨b', o', e, hcc⟩ := (hx3.kept hb4).cells (by omega)
      cases e
      have hjl := (List.getElem?_eq_some_iff.1 hj).1
      have := hcc j (by rw [← hsx.1]; exact hjl)
      rw [Nat.zero_add, List.getD_eq_getElem?_getD, hj] at this
      exact this
    case c3 => simp [bufL, zbuf, zer_len, hsx.1]
    case c4 => exact one_cells _
    intro w5 hg5 hb5
    have hrow5 := hg5.out
    rw [zbuf_splice (S.f b) hsx w3.heap.size b] at hrow5
    have hcw5 := hcw3.later hb5
    obtain ⟨w6, hr6, hm6, hg6⟩ := hcw5.map.update b w3.heap.size (by
      intro p hp
      obtain ⟨k, hk, rfl⟩ := List.mem_map.1 hp
      exact hno k (hsubR.subset hk)) (by omega) (by simp only [List.length_map]; omega)
    have hk6 : ∀ k, k < w5.heap.size → k ≠ mb → w6.heap[k]? = w5.heap[k]? := fun k hk hne => hg6.block k hk (by simpa using hne)
    have hlt5 := (Array.getElem?_eq_some_iff.1 hrow5).1
    have hadd := CW.add (f := ⟨b, 0, 0, w3.heap.size, S.f b⟩) hcw5 hb (fun k hk => hno k (hsubR.subset hk)) hrl hsx (by show 0 ≤ 100; omega) (Nat.le_trans hcw3.lo.1 (Nat.le_of_lt (Array.getElem?_eq_some_iff.1 hcw3.row).1))
      (fun k hk => by have := (Array.getElem?_eq_some_iff.1 (hcw3.buf k hk)).1; show ¬ k.g = w3.heap.size; omega) (hk6 c (Array.getElem?_eq_some_iff.1 hcw5.row).1 (hcw5.map_ne hcw5.row)) hm6 (fun k hk => hk6 k.g (Array.getElem?_eq_some_iff.1 (hcw5.buf k hk)).1 (hcw5.map_ne (hcw5.buf k hk)))
      ((hk6 w3.heap.size hlt5 (hcw5.map_ne hrow5)).trans hrow5)
    have c2 := hcw5.c2
    have HA := (show Hid _ from hadd)
    have hfin := (hfr3.trans (frame_of_below hb5)).trans (frame_of_grown (X := fun k => k = mb) hg6 (fun k hk => by cases hk; rfl))
    clear hadd hm6 hcw5 hcw3 hrow5 hrow4 hg5
    go_wp2_with fail
    go_ret
    first
      | exact ⟨rfl, w3.heap.size, by have := hfr3.size; omega, by rw [HE.out]; exact HA.out, hfin⟩
      | exact ⟨w3.heap.size, rfl, by have := hfr3.size; omega, by rw [HE.out]; exact HA.out, hfin⟩
end
end Go.Proofs.YthdlpeejmmobmaaGreat
