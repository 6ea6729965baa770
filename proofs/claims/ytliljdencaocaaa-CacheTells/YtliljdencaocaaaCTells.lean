/- CacheTells: the statement's own call returns true. -/
import Derived.Test.YtliljdencaocaaaPt
namespace Go.Proofs.Ytliljdencaocaaa
open Go.RowKit Go.Maps
set_option linter.unusedVariables false

/-- A cache over a disk, and what was put: whatever block is held has the bytes that were put, or else the disk's. -/
structure TS (B : Nat) (w : World) (c mc a dm df : Nat) (dq : Value) (mb : Nat) (P : Nat → Option Nat) (C : Ch) (S : St) : Prop where
  cd : CD B w c mc a dm df dq C S
  p0 : ∀ f ∈ C.L, f.p = 0
  mbn : B ≤ mb ∧ mb ≠ mc ∧ mb ≠ dm ∧ mb ≠ df
  byt : ∀ b g, b < 12 → P b = some g → B ≤ g ∧ (∃ cs, w.heap[g]? = some (.cells cs 5 (0, 0))) ∧ ∀ f ∈ C.L, f.b = b → BI w (some ⟨g, 0, none⟩) 128 f.xs
  dsk : ∀ f ∈ C.L, P f.b = none → f.xs = S.f f.b
/-- What was put is held. -/
def Hld (P : Nat → Option Nat) (C : Ch) : Prop := ∀ b g, b < 12 → P b = some g → ∃ f ∈ C.L, f.b = b

section
variable {B : Nat} {w w' : World} {c mc a dm df mb : Nat} {dq : Value} {P : Nat → Option Nat} {C : Ch} {S : St}
theorem BI.row {g n : Nat} {xs : List Int} (h : BI w (some ⟨g, 0, none⟩) n xs) (hb : w'.heap[g]? = w.heap[g]?) : BI w' (some ⟨g, 0, none⟩) n xs := by
  refine ⟨h.len, h.big, h.byt, fun hn => ?_⟩
  obtain ⟨b, o, e, hc⟩ := h.cells hn
  cases e
  exact ⟨g, 0, rfl, fun i hi => by rw [World.cell?_of_block (a := ⟨g, 0 + i, none⟩) hb]; exact hc i hi⟩
theorem TS.kept (h : TS B w c mc a dm df dq mb P C S) (hb : ∀ k, k < w.heap.size → (cfoot c mc C k ∨ foot a dm df dq k ∨ ∃ cs, w.heap[k]? = some (.cells cs 5 (0, 0))) → w'.heap[k]? = w.heap[k]?) : TS B w' c mc a dm df dq mb P C S := by
  refine ⟨⟨h.cd.ci.kept fun k hk => hb k (h.cd.ci.toCW.in k hk).2 (.inl hk), h.cd.di.kept fun k hk => hb k (h.cd.di.in k hk).2 (.inr (.inl hk)), h.cd.ne⟩, h.p0, h.mbn, fun b g hb12 hP => ?_, h.dsk⟩
  obtain ⟨h1, ⟨cs, h2⟩, h3⟩ := h.byt b g hb12 hP
  have e := hb g (Array.getElem?_eq_some_iff.1 h2).1 (.inr (.inr ⟨cs, h2⟩))
  exact ⟨h1, ⟨cs, e.trans h2⟩, fun f hf hfb => (h3 f hf hfb).row e⟩
theorem TS.later (h : TS B w c mc a dm df dq mb P C S) (hb : Below w.heap.size w w') : TS B w' c mc a dm df dq mb P C S :=
  h.kept fun k hk _ => hb.block k hk
theorem TS.but (h : TS B w c mc a dm df dq mb P C S) {k : Nat} (hg : w.grownBy w' (some k)) (hk : (∃ m x y z, w.heap[k]? = some (.mapIter m x y z)) ∨ ((∃ es ck, w.heap[k]? = some (.map es ck)) ∧ k ≠ mc ∧ k ≠ dm ∧ k ≠ df)) : TS B w' c mc a dm df dq mb P C S := by
  refine h.kept fun j hj hx => hg.block j hj ?_
  intro e
  cases e
  obtain ⟨D, ⟨es, ck, hm1, _⟩, _⟩ := h.cd.ci.map.ex
  obtain ⟨D2, ⟨es2, ck2, hm2, _⟩, _⟩ := h.cd.di.secs.ex
  obtain ⟨D3, ⟨es3, ck3, hm3, _⟩, _⟩ := h.cd.di.fls.ex
  rcases hx with (rfl | rfl | ⟨f, hf, rfl⟩) | (rfl | rfl | rfl | hf) | ⟨cs, hc⟩
  · have := h.cd.ci.row
    rcases hk with ⟨_, _, _, _, e⟩ | ⟨⟨_, _, e⟩, _⟩ <;> rw [this] at e <;> cases e
  · rcases hk with ⟨_, _, _, _, e⟩ | ⟨⟨_, _, e⟩, e1, _⟩
    · rw [hm1] at e; cases e
    · exact e1 rfl
  · have := h.cd.ci.buf f hf
    rcases hk with ⟨_, _, _, _, e⟩ | ⟨⟨_, _, e⟩, _⟩ <;> rw [this] at e <;> cases e
  · have := h.cd.di.row
    rcases hk with ⟨_, _, _, _, e⟩ | ⟨⟨_, _, e⟩, _⟩ <;> rw [this] at e <;> cases e
  · rcases hk with ⟨_, _, _, _, e⟩ | ⟨⟨_, _, e⟩, _, e1, _⟩
    · rw [hm2] at e; cases e
    · exact e1 rfl
  · rcases hk with ⟨_, _, _, _, e⟩ | ⟨⟨_, _, e⟩, _, _, e1⟩
    · rw [hm3] at e; cases e
    · exact e1 rfl
  · obtain ⟨cs, e'⟩ := own_ty h.cd.di.que hf
    rcases hk with ⟨_, _, _, _, e⟩ | ⟨⟨_, _, e⟩, _⟩ <;> rw [e'] at e <;> cases e
  · rcases hk with ⟨_, _, _, _, e⟩ | ⟨⟨_, _, e⟩, _⟩ <;> rw [hc] at e <;> cases e
theorem TS.notc (h : TS B w c mc a dm df dq mb P C S) {es : Array MapEntry} {ck : Nat} (hm : w.heap[mb]? = some (.map es ck)) : ¬ cfoot c mc C mb := by
  rintro (e | e | ⟨f, hf, e⟩)
  · have := h.cd.ci.row; rw [← e, hm] at this; cases this
  · exact h.mbn.2.1 e
  · have := h.cd.ci.buf f hf; rw [← e, hm] at this; cases this
theorem TS.notd (h : TS B w c mc a dm df dq mb P C S) {es : Array MapEntry} {ck : Nat} (hm : w.heap[mb]? = some (.map es ck)) : ¬ foot a dm df dq mb := by
  rintro (e | e | e | e)
  · have := h.cd.di.row; rw [← e, hm] at this; cases this
  · exact h.mbn.2.2.1 e
  · exact h.mbn.2.2.2 e
  · obtain ⟨cs, e'⟩ := own_ty h.cd.di.que e
    rw [hm] at e'; cases e'

/-- A disk's read leaves it all. -/
theorem TS.read (h : TS B w c mc a dm df dq mb P C S) (hd : DI B w' a dm df dq S) (hf : Frame (foot a dm df dq) w w') : TS B w' c mc a dm df dq mb P C S := by
  refine ⟨h.cd.read rfl hd hf, h.p0, h.mbn, fun b g hb hP => ?_, h.dsk⟩
  obtain ⟨h1, ⟨cs, h2⟩, h3⟩ := h.byt b g hb hP
  have e := hf.block g (Array.getElem?_eq_some_iff.1 h2).1 (h.cd.di.notin h2 (by decide) (by decide))
  exact ⟨h1, ⟨cs, e.trans h2⟩, fun f hf hfb => (h3 f hf hfb).row e⟩
/-- The cache has turned: each buffer is one that was, or new, with the disk's bytes. -/
theorem TS.turn (h : TS B w c mc a dm df dq mb P C S) {C' : Ch} (hcd : CD B w' c mc a dm df dq C' S) (hf : Frame (cfoot c mc C) w w') (hp : ∀ f ∈ C'.L, f.p = 0) (hH : Hld P C)
    (hQ : ∀ k' ∈ C'.L, (∃ k ∈ C.L, k.b = k'.b ∧ k'.xs = k.xs) ∨ ((∀ k ∈ C.L, ¬ k.b = k'.b) ∧ k'.xs = S.f k'.b)) : TS B w' c mc a dm df dq mb P C' S := by
  refine ⟨hcd, hp, h.mbn, fun b g hb hP => ?_, fun k' hk' hP => ?_⟩
  · obtain ⟨h1, ⟨cs, h2⟩, h3⟩ := h.byt b g hb hP
    have e := hf.block g (Array.getElem?_eq_some_iff.1 h2).1 (h.cd.ci.toCW.notin h2 (by decide) (by decide))
    refine ⟨h1, ⟨cs, e.trans h2⟩, fun k' hk' hkb => ?_⟩
    rcases hQ k' hk' with ⟨k, hk, e1, e2⟩ | ⟨hn, _⟩
    · rw [e2]
      exact (h3 k hk (e1.trans hkb)).row e
    · obtain ⟨f, hf, efb⟩ := hH b g hb hP
      exact absurd (efb.trans hkb.symm) (hn f hf)
  · rcases hQ k' hk' with ⟨k, hk, e1, e2⟩ | ⟨_, e2⟩
    · rw [e2, h.dsk k hk (by rw [e1]; exact hP), e1]
    · exact e2

theorem get_tell (h : CD B w c mc a dm df dq C S) (hp : ∀ f ∈ C.L, f.p = 0) (h0 : S.fl = fun _ => 0) (b : Nat) (hb : b < S.N) (hc : C.hi + C.mi < 4611686018427387904) :
    Calls Try.prog 15 #[.pointer (some ⟨c, 0, none⟩), .int .i64 (b : Int)] w fun e w' => ∃ g cap C' xs, e = .returned (.tuple #[.slice (some ⟨g, 0, none⟩) 128 cap, .int .i64 0]) ∧ Own w.heap.size w' g 128 cap xs ∧ CD B w' c mc a dm df dq C' S ∧
      C'.bd = C.bd ∧ C'.hi + C'.mi = C.hi + C.mi + 1 ∧ (∀ f ∈ C'.L, f.p = 0) ∧ (∃ k ∈ C'.L, k.b = b ∧ k.xs = xs) ∧ (∀ k' ∈ C'.L, (∃ k ∈ C.L, k.b = k'.b ∧ k'.xs = k.xs) ∨ ((∀ k ∈ C.L, ¬ k.b = k'.b) ∧ k'.xs = S.f k'.b)) ∧ Frame (cfoot c mc C) w w' := by
  have hbd := h.ci.bd.1
  by_cases hm : ∃ f ∈ C.L, f.b = b
  · obtain ⟨f, hf, rfl⟩ := hm
    refine (get_hit h hf hc).mono ?_
    rintro e w1 ⟨g, cap, rfl, how, hcd, hfr⟩
    refine ⟨g, cap, _, _, rfl, how, hcd, rfl, by simp; omega, ?_, ⟨{ f with u := C.hi + 1 + C.mi }, by simp, rfl, rfl⟩, ?_, hfr⟩
    · intro k hk
      rcases List.mem_append.1 hk with hk | hk
      · exact hp k (mem_outb.1 hk).1
      · simp at hk; subst hk; exact hp f hf
    · intro k hk
      rcases List.mem_append.1 hk with hk | hk
      · exact .inl ⟨k, (mem_outb.1 hk).1, rfl, rfl⟩
      · simp at hk; subst hk; exact .inl ⟨f, hf, rfl, rfl⟩
  · have hno : ∀ k ∈ C.L, ¬ k.b = b := fun k hk e => hm ⟨k, hk, e⟩
    have e0 : S.fl b = 0 := by rw [h0]
    refine (get_new h h.di.ok b hb hno hc (canGo_all hp hbd) e0).mono ?_
    rintro e w1 ⟨g, cap, gn, rfl, how, _, hcd, hfr⟩
    refine ⟨g, cap, _, _, rfl, how, hcd, rfl, by simp; omega, ?_, ⟨⟨b, C.hi + (C.mi + 1), 0, gn, S.f b⟩, by simp, rfl, rfl⟩, ?_, hfr⟩
    · intro k hk
      rcases List.mem_append.1 hk with hk | hk
      · exact hp k ((room_sub C).subset hk)
      · simp at hk; subst hk; rfl
    · intro k hk
      rcases List.mem_append.1 hk with hk | hk
      · exact .inl ⟨k, (room_sub C).subset hk, rfl, rfl⟩
      · simp at hk; subst hk; exact .inr ⟨hno, rfl⟩

theorem rep_b {L : List Bf} {f : Bf} {b : Nat} : (∃ k ∈ rep L f, k.b = b) ↔ ∃ k ∈ L, k.b = b := by
  unfold rep
  constructor
  · rintro ⟨k, hk, e⟩
    obtain ⟨k0, h0, rfl⟩ := List.mem_map.1 hk
    refine ⟨k0, h0, ?_⟩
    by_cases h : k0.b = f.b
    · rw [if_pos h] at e; rw [h]; exact e
    · rw [if_neg h] at e; exact e
  · rintro ⟨k, hk, e⟩
    refine ⟨_, List.mem_map.2 ⟨k, hk, rfl⟩, ?_⟩
    by_cases h : k.b = f.b
    · rw [if_pos h, ← h]; exact e
    · rw [if_neg h]; exact e
theorem blks_rep {L : List Bf} {f : Bf} : blks (rep L f) = blks L := by
  unfold blks rep
  rw [List.map_map]
  apply List.map_congr_left
  intro k _
  show ((if k.b = f.b then f else k).b : Int) = k.b
  by_cases h : k.b = f.b
  · rw [if_pos h, h]
  · rw [if_neg h]
theorem TS.put (h : TS B w c mc a dm df dq mb P C S) {f : Bf} (hf : f ∈ C.L) {xs : List Int} (hcd : CD B w' c mc a dm df dq { C with L := rep C.L { f with xs := xs } } S) (hfr : Frame (cfoot c mc C) w w')
    {g : Nat} {cs : Array Value} (hg : w'.heap[g]? = some (.cells cs 5 (0, 0))) (hbi : BI w' (some ⟨g, 0, none⟩) 128 xs) (hBg : B ≤ g) (hH : Hld P C) :
    TS B w' c mc a dm df dq mb (fun k => if k = f.b then some g else P k) { C with L := rep C.L { f with xs := xs } } S ∧ Hld (fun k => if k = f.b then some g else P k) { C with L := rep C.L { f with xs := xs } } := by
  refine ⟨⟨hcd, fun k hk => ?_, h.mbn, fun b g' hb hP => ?_, fun k hk hP => ?_⟩, fun b g' hb hP => ?_⟩
  · rcases mem_rep hk with rfl | ⟨hk, _⟩
    · exact h.p0 f hf
    · exact h.p0 k hk
  · by_cases e : b = f.b
    · subst e
      rw [if_pos rfl] at hP
      cases hP
      refine ⟨hBg, ⟨cs, hg⟩, fun k hk hkb => ?_⟩
      rcases mem_rep hk with rfl | ⟨_, hne⟩
      · exact hbi
      · exact absurd hkb hne
    · simp only [if_neg e] at hP
      obtain ⟨h1, ⟨cs', h2⟩, h3⟩ := h.byt b g' hb hP
      have e' := hfr.block g' (Array.getElem?_eq_some_iff.1 h2).1 (h.cd.ci.toCW.notin h2 (by decide) (by decide))
      refine ⟨h1, ⟨cs', e'.trans h2⟩, fun k hk hkb => ?_⟩
      rcases mem_rep hk with rfl | ⟨hk, _⟩
      · exact absurd hkb.symm e
      · exact (h3 k hk hkb).row e'
  · rcases mem_rep hk with rfl | ⟨hk, hne⟩
    · simp at hP
    · rw [if_neg hne] at hP
      exact h.dsk k hk hP
  · by_cases e : b = f.b
    · subst e
      exact rep_b.2 ⟨f, hf, rfl⟩
    · simp only [if_neg e] at hP
      exact rep_b.2 (hH b g' hb hP)

theorem held_has (h : CD B w c mc a dm df dq C S) :
    Calls Try.prog 11 #[.pointer (some ⟨c, 0, none⟩)] w fun e w' => ∃ p n cp, e = .returned (.slice p n cp) ∧ n = C.L.length ∧ Below w.heap.size w w' ∧ ∀ x, Calls Try.prog 18 #[.slice p n cp, .int .i64 x] w' fun e w'' => e = .returned (.bool (decide (x ∈ blks C.L))) ∧ w'' = w' := by
  refine (held_ok h.ci).mono ?_
  rintro e w5 ⟨v5, rfl, hN, hb⟩
  have hr := blks_rng h.ci.toCW
  have h12 := h.ci.toCW.twelve
  have h12' := h.ci.N12
  obtain ⟨p5, c5, rfl, hj⟩ := hN.ii (blks_len C.L) (by omega) hr
  exact ⟨p5, _, c5, rfl, rfl, hb, fun x => icontains_ok p5 _ c5 _ x w5 hj⟩

theorem slR_sh' {v : Value} {y : DataW Unit × List MemPlace} (h : slR v = some y) : ∃ c : Option Nat, v = ptV c := by
  obtain ⟨c, rfl⟩ := slR_sh h
  exact ⟨c, by cases c <;> rfl⟩
theorem grown_of_below {w w' : World} (h : Below w.heap.size w w') (row : Option Nat) : w.grownBy w' row := ⟨h.os, h.tape, h.output, h.size, fun i hi _ => h.block i hi⟩
theorem below_of_grown {w w' : World} (h : w.grownBy w' none) : Below w.heap.size w w' := ⟨h.os, h.tape, h.output, h.size, fun i hi => h.block i hi (by simp)⟩
theorem aRead_ok {S : St} {b : Nat} (hb : b < S.N) (h0 : S.fl = fun _ => 0) : aRead S (b : Int) = (128, S.f b, 0, S) := by
  unfold aRead
  rw [if_neg (by omega), h0]
  simp

/-- What is left of what was put, while the map is swept. -/
def Pl (P : Nat → Option Nat) (C : Ch) (left : Lit → Bool) (b : Nat) : Option Nat := if left (key b) = true ∨ (b : Int) ∈ blks C.L then P b else none
theorem PtD.congr {D : DataW Unit} {P Q : Nat → Option Nat} (h : PtD D P) (e : ∀ b, b < 12 → Q b = P b) : PtD D Q := ⟨h.1, fun b hb => by rw [e b hb]; exact h.2 b hb⟩
theorem Pl_start {D : DataW Unit} {P : Nat → Option Nat} {C : Ch} (h : PtD D P) : PtD D (Pl P C (has D)) := h.congr fun b hb => by
  unfold Pl
  cases e : P b with
  | none => simp
  | some g => rw [if_pos (.inl ((h.2 b hb).2 g e).1)]
theorem sk_key (a b : Nat) : (key a).sameKey (key b) = decide (a = b) := by
  by_cases h : a = b
  · subst h
    rw [WideAt.sameKey_self (key_is a)]; simp
  · rw [sameKey_ne (key_ne h)]; simp [h]
theorem Pl_stays {D : DataW Unit} {P : Nat → Option Nat} {C : Ch} {left : Lit → Bool} (h : PtD D (Pl P C left)) {b : Nat} (hm : (b : Int) ∈ blks C.L) : PtD D (Pl P C (fun z => left z && !z.sameKey (key b))) := h.congr fun k hk => by
  unfold Pl
  simp only [sk_key]
  by_cases e : k = b
  · subst e; simp [hm]
  · simp [e]
theorem Pl_goes {D : DataW Unit} {P : Nat → Option Nat} {C : Ch} {left : Lit → Bool} (h : PtD D (Pl P C left)) {b : Nat} (hm : ¬ (b : Int) ∈ blks C.L) : PtD (D.del (key b)) (Pl P C (fun z => left z && !z.sameKey (key b))) := (h.del b).congr fun k hk => by
  unfold Pl
  simp only [sk_key]
  by_cases e : k = b
  · subst e; simp [hm]
  · simp [e]
theorem TS.swept (h : TS B w c mc a dm df dq mb P C S) {left : Lit → Bool} (hl : ∀ kl, left kl = false) : TS B w c mc a dm df dq mb (Pl P C left) C S ∧ Hld (Pl P C left) C := by
  have e : ∀ b, Pl P C left b = if (b : Int) ∈ blks C.L then P b else none := fun b => by unfold Pl; simp [hl]
  refine ⟨⟨h.cd, h.p0, h.mbn, fun b g hb hP => ?_, fun f hf hP => ?_⟩, fun b g hb hP => ?_⟩
  · rw [e] at hP
    split at hP
    · exact h.byt b g hb hP
    · cases hP
  · rw [e, if_pos (mem_blks.2 ⟨f, hf, rfl⟩)] at hP
    exact h.dsk f hf hP
  · rw [e] at hP
    split at hP
    · rename_i hm
      exact mem_blks.1 hm
    · cases hP
end

set_option maxRecDepth 100000 in
set_option maxHeartbeats 2000000 in
theorem cacheTells_walk (blocks bound : Int) (p : Option Addr) (m cp : Nat) (ks : List KV) (w : World) (hl : KI w p m ks) :
    Calls Try.prog 5 #[.int .i64 blocks, .int .i64 bound, .slice p m cp] w fun e w' => e = .returned (.bool true) ∧ Below w.heap.size w w' := by
  obtain ⟨n0, hn0, en, en1⟩ := eight_mod bound
  obtain ⟨n, hn⟩ : ∃ n, n = 1 + n0 := ⟨_, rfl⟩
  have eN : 1 + (n0 : Int) = (n : Int) := by omega
  have hn1 : 1 ≤ n := by omega
  have hn2 : n ≤ 8 := by omega
  have hbo := both_ok blocks (n : Int) w
  have hmm := hl.big
  have hlen := hl.len
  have hmkm := @run_makeMap Try.prog
  clear hn
  go_enter Try.func5, Try.ntmps5
  go_wp2_with (first
    | (go_at_call 8; refine Calls.mono hbo ?_; rintro e w1 ⟨K, a, x, hK1, hK2, eK', hb1, h9⟩; have h9 := h9.resolve_left (fun hb => by have := hb.1; omega); obtain ⟨n', c, mc, y, dm, df, dq, bv, qv, fv, gB, gQ, en', _, _, rfl, hcd, _, _⟩ := h9))
  obtain rfl : n' = n := by omega
  have hSN : (Sb K K).N = K := Sb_N K K
  have hSf := Sb_fl K K
  generalize Sb K K = S at *
  clear eK' en' hbo h9 hn0
  have hKu := K_u64 K hK2
  have hT0 : TS w.heap.size (w1.alloc (.map #[] 0)) c mc a dm df dq w1.heap.size (fun _ => none) ⟨n', 0, 0, []⟩ S := by
    have h1 := (hcd.ci.toCW.in mc (.inr (.inl rfl))).2
    have h2 := (hcd.di.in dm (.inr (.inl rfl))).2
    have h3 := (hcd.di.in df (.inr (.inr (.inl rfl)))).2
    exact ⟨hcd.later ((Below.refl _ _).alloc (Nat.le_refl _) _), by simp, ⟨hb1.size, by omega, by omega, by omega⟩, fun b g _ h => (by cases h), fun f hf => (by cases hf)⟩
  have hP0 := pt_made w1
  have hb2 := hb1.alloc hb1.size (.map #[] 0)
  clear hcd hmkm
  generalize w1.alloc (.map #[] 0) = w2 at *
  generalize w1.heap.size = mb at *
  go_loopw [45] (fun i wr => ∃ (j : Nat) (P : Nat → Option Nat) (C : Ch), j ≤ m ∧ i = .int .i64 (j : Int) ∧ TS w.heap.size wr c mc a dm df dq mb P C S ∧ Pt wr mb P ∧ Hld P C ∧ C.bd = n' ∧ C.hi + C.mi ≤ j ∧ Below w.heap.size w wr) (fun i _ => m - (intOf i).toNat)
  case atStart => exact ⟨0, _, _, by omega, rfl, hT0, hP0, fun b g _ h => (by cases h), rfl, Nat.le_refl _, hb2⟩
  case round =>
    clear hT0 hP0 hb2
    obtain ⟨j, P, C, hj, rfl, hT, hP, hH, hbd, hcnt, hbw⟩ := hrel
    by_cases hlt : j < m
    · obtain ⟨bb, oo, rfl, hat⟩ := hl.cells (by omega)
      obtain ⟨k, hk⟩ : ∃ k, ks[j]? = some k := ⟨ks[j]'(by omega), List.getElem?_eq_getElem (by omega)⟩
      obtain ⟨k0, k1, k2, ⟨xp, xm, xc, k3, x1, x2, x3⟩, r0, r1, r2⟩ := (hat j k hk).kept hbw
      clear hat hk x3
      obtain ⟨b, hbK, eb⟩ := K_mod K hK1 hK2 k.b
      generalize k.op = op at *
      generalize k.b = kb at *
      generalize k.n = kn at *
      have hjI : (j : Int) < (m : Int) := by omega
      have hj0 : (0 : Int) ≤ (j : Int) := by omega
      have hK0 : ¬ (K : Int) = 0 := by omega
      have hba := (Below.refl wr.heap.size wr).alloc (Nat.le_refl _) (.cells #[.int .i64 op, .int .i64 kb, .int .i64 kn, .slice xp xm xc] 31)
      have hTa := hT.later hba
      have hPa := hP.kept (hba.block mb hP.lt)
      have hbwa := hbw.alloc hbw.size (.cells #[.int .i64 op, .int .i64 kb, .int .i64 kn, .slice xp xm xc] 31)
      have hbxx := World.alloc_heap_new wr (.cells #[.int .i64 op, .int .i64 kb, .int .i64 kn, .slice xp xm xc] 31)
      have y0 : _ = some (Value.int .i64 op) := cell_of_row _ _ 0 _ 31 _ hbxx
      have y1 : _ = some (Value.int .i64 kb) := cell_of_row _ _ 1 _ 31 _ hbxx
      have y2 : _ = some (Value.int .i64 kn) := cell_of_row _ _ 2 _ 31 _ hbxx
      go_wp2_with fail
      clear k0 k1 k2 k3 hba hT hP
      generalize wr.alloc (.cells #[.int .i64 op, .int .i64 kb, .int .i64 kn, .slice xp xm xc] 31) = wa at *
      generalize wr.heap.size = H at *
      have hbl := fun q => blocks_ok ((hTa.cd.di).later (below_drewN (Below.refl _ _) q))
      simp only [hSN] at hbl
      go_quiet (first | (go_at_call 21; exact Calls.quiet_of_same (hbl _)))
      rw [eb]
      have hbq := below_drewN (Below.refl wa.heap.size wa) nq
      have hTq := hTa.later hbq
      have hPq := hPa.kept (hbq.block mb hPa.lt)
      have hbwq := below_drewN hbwa nq
      have z0 := (hbq.cell (p := ⟨H, 0, none⟩) (lt_of_cell y0)).trans y0
      have z1 := (hbq.cell (p := ⟨H, 2, none⟩) (lt_of_cell y2)).trans y2
      clear hbl hTa hPa hbwa y0 y1 y2 hbxx hbq hbw
      generalize wa.drewN nq = wq at *
      clear wa nq eb
      have hb12 : b < 12 := by omega
      have hbN : b < S.N := by omega
      by_cases hop : op.tmod 2 = 0
      · obtain ⟨z, hz⟩ : ∃ z, IntKind.u8.wrap kn = z := ⟨_, rfl⟩
        have hz2 : 0 ≤ z ∧ z < 256 := by rw [← hz]; simp [IntKind.wrap, IntKind.bits, IntKind.signed]; omega
        have hbx : BI (wq.alloc (.cells #[.int .u8 z] 5)) (some ⟨wq.heap.size, 0, none⟩) 1 [z] := by
          refine ⟨rfl, by omega, fun i => by cases i <;> simp <;> omega, fun _ => ⟨wq.heap.size, 0, rfl, fun i hi => ?_⟩⟩
          obtain rfl : i = 0 := by omega
          exact (Boxed.new wq 5 _).cell
        have hrep := repeat_ok z hz2 ⟨wq.heap.size, 0, none⟩ 1 _ hbx
        have hbA : Below wq.heap.size wq (wq.alloc (.cells #[.int .u8 z] 5)) := (Below.refl _ wq).alloc (Nat.le_refl _) _
        by_cases hm : ∃ f ∈ C.L, f.b = b
        · obtain ⟨f, hf, rfl⟩ := hm
          have hdec : decide ((f.b : Int) ∈ blks C.L) = true := decide_eq_true (mem_blks.2 ⟨f, hf, rfl⟩)
          go_wp2_with (first
            | (go_at_call 22; refine Calls.mono hrep ?_; rintro e w3 ⟨g, rfl, hg3, hbi3, ⟨cs3, hcs3⟩, hb3⟩; have hb3 : Below wq.heap.size wq w3 := hbA.trans (hb3.mono (by simp)); have hT3 := hTq.later hb3; have hP3 := hPq.kept (hb3.block mb hPq.lt); have hbw3 := hbwq.trans (hb3.mono hbwq.size); have hput := put_hit hT3.cd hf (some ⟨g, 0, none⟩) 128 _ hbi3)
            | (go_at_call 23; refine Calls.mono hput ?_; rintro e w4 ⟨rfl, hcd4, hf4⟩; have hbw4 : Below w.heap.size w w4 := hbw3.trans (hf4.below hbw3.size (fun k hk => (hT3.cd.ci.toCW.in k hk).1)); obtain ⟨es3, ck3, hm3⟩ := hP3.isMap; have hP4 := hP3.kept (hf4.block mb hP3.lt (hT3.notc hm3)); have hg4 := hf4.block g (Array.getElem?_eq_some_iff.1 hcs3).1 (hT3.cd.ci.toCW.notin hcs3 (by decide) (by decide)); obtain ⟨hT4, hH4⟩ := hT3.put hf hcd4 hf4 (hg4.trans hcs3) (hbi3.row hg4) (by have := hbwq.size; simp at hg3; omega) hH; have hheld := held_has hcd4; rw [blks_rep] at hheld)
            | (go_at_call 11; refine Calls.mono hheld ?_; rintro e w5 ⟨p5, n5, c5, rfl, hn5, hb5, hcon⟩; clear hn5; have hc5 := hcon (f.b : Int); rw [hdec] at hc5; have hT5 := hT4.later hb5; have hP5 := hP4.kept (hb5.block mb hP4.lt); have hbw5 := hbw4.trans (hb5.mono hbw4.size); obtain ⟨w6, hst, hP6, hg6⟩ := hP5.store f.b g hb12; obtain ⟨es5, ck5, hm5⟩ := hP5.isMap; have hT6 := hT5.but hg6 (.inr ⟨⟨es5, ck5, hm5⟩, hT5.mbn.2⟩); have hbw6 := hbw5.grown hg6 hbw5.size (fun k hk => (by cases hk; exact hT5.mbn.1)))
            | (go_at_call 18; refine same_at hc5 ?_))
          go_roundw
          case rel => exact ⟨j + 1, _, _, by omega, by go_num, hT6, hP6, hH4, hbd, by show C.hi + C.mi ≤ j + 1; omega, hbw6⟩
          case measure => simp [intOf]; omega
        · have hno : ∀ k ∈ C.L, ¬ k.b = b := fun k hk e => hm ⟨k, hk, e⟩
          have hdec : decide ((b : Int) ∈ blks C.L) = false := decide_eq_false (fun h => hm (mem_blks.1 h))
          go_wp2_with (first
            | (go_at_call 22; refine Calls.mono hrep ?_; rintro e w3 ⟨g, rfl, hg3, hbi3, ⟨cs3, hcs3⟩, hb3⟩; have hb3 : Below wq.heap.size wq w3 := hbA.trans (hb3.mono (by simp)); have hT3 := hTq.later hb3; have hP3 := hPq.kept (hb3.block mb hPq.lt); have hbw3 := hbwq.trans (hb3.mono hbwq.size); have hput := put_miss hT3.cd b hbN hno (some ⟨g, 0, none⟩) 128; have hheld := held_has hT3.cd)
            | (go_at_call 23; refine same_at hput ?_)
            | (go_at_call 11; refine Calls.mono hheld ?_; rintro e w5 ⟨p5, n5, c5, rfl, hn5, hb5, hcon⟩; clear hn5; have hc5 := hcon (b : Int); rw [hdec] at hc5; have hT5 := hT3.later hb5; have hP5 := hP3.kept (hb5.block mb hP3.lt); have hbw5 := hbw3.trans (hb5.mono hbw3.size))
            | (go_at_call 18; refine same_at hc5 ?_))
          go_roundw
          case rel => exact ⟨j + 1, _, _, by omega, by go_num, hT5, hP5, hH, hbd, by omega, hbw5⟩
          case measure => simp [intOf]; omega
      · have hop' : ¬ op.tmod 2 = 0 := hop
        have hget := get_tell hTq.cd hTq.p0 hSf b hbN (by omega)
        cases hPb : P b with
        | some g0 =>
          have hpv : ptV (some g0) = .slice (some ⟨g0, 0, none⟩) 128 128 := rfl
          go_wp2_with (first
            | (go_at_call 15; refine Calls.mono hget ?_; rintro e w3 ⟨g, cap, C', xs, rfl, how, hcd3, hbd3, hcnt3, hp3, ⟨k3, hk3, hkb3, hkx3⟩, hQ3, hf3⟩; have hT3 := hTq.turn hcd3 hf3 hp3 hH hQ3; obtain ⟨esq, ckq, hmq⟩ := hPq.isMap; have hP3 := hPq.kept (hf3.block mb hPq.lt (hTq.notc hmq)); have hbw3 : Below w.heap.size w w3 := hbwq.trans (hf3.below hbwq.size (fun k hk => (hTq.cd.ci.toCW.in k hk).1)); have hlook := hP3.look b hb12; rw [hPb] at hlook; have hbx3 : BI w3 (some ⟨g, 0, none⟩) 128 xs := row_bi how (by omega) (by rw [← hkx3]; exact (hcd3.ci.sec k3 hk3).2); have hb0 := (hT3.byt b g0 hb12 hPb).2.2 k3 hk3 hkb3; rw [hkx3] at hb0; have heq := equal_any (some ⟨g, 0, none⟩) (some ⟨g0, 0, none⟩) 128 cap 128 128 xs xs w3 hbx3 hb0; rw [show (xs == xs) = true by simp] at heq; have hPr := hP3)
            | (go_at_call 25; refine same_at heq ?_)
            | (at_range; obtain ⟨D0, hown, hpd⟩ := hPr; refine wpList_range_own _ rfl _ 48 rfl 3 29 keyed3 Try.underlying48 slR mb (size D0) D0 rfl hown ?_; intro w0 hrg0 hg0 hs0))
          have hTr := hT3.later (below_of_grown hg0)
          have hbr := hbw3.grown hg0 hbw3.size (fun k hk => (by cases hk))
          go_frame
          go_loopw [21] (fun _ wz => ∃ (left : Lit → Bool) (cnt : Nat) (D : DataW Unit), wz.ranges Try.prog 3 slR mb w3.heap.size (size D0) D left cnt ∧ PtD D (Pl P C' left) ∧ TS w.heap.size wz c mc a dm df dq mb P C' S ∧ Below w.heap.size w wz) (fun _ wz => wz.rangeLeft mb w3.heap.size)
          case atStart => exact ⟨_, _, D0, hrg0, Pl_start hpd, hTr, hbr⟩
          case round =>
            clear hTr hbr hrg0 hg0 hs0 hown hpd
            obtain ⟨left, cnt, D, hrg, hpl, hTz, hbz⟩ := hrel
            go_wp2_with (first
              | (at_next; refine wpList_next_ranges _ rfl _ rfl 3 keyed3 slR (Value.int .i64) ptV (fun key kl hk => by obtain ⟨x, hx, _⟩ := Maps.keyOf_int_inv Try.underlying3 hk; exact ⟨x, hx⟩) (fun v y hv => slR_sh' hv) mb w3.heap.size (size D0) D left cnt rfl hrg ?_ ?_))
            · intro hc0 hl0
              obtain ⟨hTs, hHs⟩ := hTz.swept hl0
              have hPs : Pt wr mb (Pl P C' left) := ⟨D, tight hrg.owns, hpl⟩
              clear hTz
              go_wp2
              go_roundw
              case rel => exact ⟨j + 1, _, C', by omega, by go_num, hTs, hPs, hHs, hbd3.trans hbd, by omega, hbz⟩
              case measure => simp [intOf]; omega
            · intro xk vk kl yd yp w5 cnt5 hkey hlk hv hat2 hrg5 hlt5 hg5 hs5 hen
              obtain ⟨b', hb', rfl⟩ := hpl.1 kl (Maps.has_true_of_atKey hat2)
              obtain ⟨x', ex, ekl, _⟩ := Maps.keyOf_int_inv Try.underlying3 hkey
              obtain rfl : xk = (b' : Int) := by cases ex; simp [key] at ekl; omega
              have hT5 := hTz.but hg5 (.inl (by obtain ⟨_, _, _, _, _, _, _, _, _, hr, _⟩ := hrg; exact ⟨_, _, _, _, hr⟩))
              have hbw5 := hbz.grown hg5 hbz.size (fun k hk => (by cases hk; exact hbw3.size))
              have hheld := held_has hT5.cd
              clear hv ex ekl hTz
              by_cases hmm2 : (b' : Int) ∈ blks C'.L
              · have hdec : decide ((b' : Int) ∈ blks C'.L) = true := decide_eq_true hmm2
                go_wp2_with (first
                  | (go_at_call 11; refine Calls.mono hheld ?_; rintro e w6 ⟨p6, n6, c6, rfl, hn6, hb6, hcon⟩; clear hn6; have hc6 := hcon (b' : Int); rw [hdec] at hc6)
                  | (go_at_call 18; refine same_at hc6 ?_))
                have hrg6 := hrg5.kept (grown_of_below hb6 none) (by simp) (by simp)
                go_roundw
                case rel => exact ⟨_, cnt5, D, hrg6, Pl_stays hpl hmm2, hT5.later hb6, hbw5.trans (hb6.mono hbw5.size)⟩
                case measure => rw [hrg6.left_eq, hrg.left_eq]; exact hlt5
              · have hdec : decide ((b' : Int) ∈ blks C'.L) = false := decide_eq_false hmm2
                go_wp2_with (first
                  | (go_at_call 11; refine Calls.mono hheld ?_; rintro e w6 ⟨p6, n6, c6, rfl, hn6, hb6, hcon⟩; clear hn6; have hc6 := hcon (b' : Int); rw [hdec] at hc6; have hrg6 := hrg5.kept (grown_of_below hb6 none) (by simp) (by simp); have hT6 := hT5.later hb6; have hbw6 := hbw5.trans (hb6.mono hbw5.size))
                  | (go_at_call 18; refine same_at hc6 ?_)
                  | (at_delete; refine wpList_delete_ranges _ rfl _ _ 48 3 rfl 29 keyed3 Try.underlying48 slR mb w3.heap.size (size D0) D _ cnt5 rfl hrg6 _ _ rfl hkey ?_; intro w7 cnt7 hrg7 hle7 hturn7; go_frame))
                rw [strike_twice] at hrg7
                have hT7 := hT6.but hturn7.grown (.inr ⟨(by obtain ⟨es, ck, hm, _⟩ := hrg6.owns; exact ⟨es, ck, hm⟩), hT6.mbn.2⟩)
                have hbw7 := hbw6.grown hturn7.grown hbw6.size (fun k hk => (by cases hk; exact hT6.mbn.1))
                go_roundw
                case rel => exact ⟨_, cnt7, _, hrg7, Pl_goes hpl hmm2, hT7, hbw7⟩
                case measure => rw [hrg7.left_eq, hrg.left_eq]; omega
        | none =>
          have hpv : ptV none = .slice none 0 0 := rfl
          have hrd := fun w2 (h : DI w.heap.size w2 a dm df dq S) => dRead h (b : Int)
          rw [aRead_ok hbN hSf] at hrd
          have HRD := (show Hid _ from hrd)
          clear hrd
          go_wp2_with (first
            | (go_at_call 15; refine Calls.mono hget ?_; rintro e w3 ⟨g, cap, C', xs, rfl, how, hcd3, hbd3, hcnt3, hp3, ⟨k3, hk3, hkb3, hkx3⟩, hQ3, hf3⟩; have hT3 := hTq.turn hcd3 hf3 hp3 hH hQ3; obtain ⟨esq, ckq, hmq⟩ := hPq.isMap; have hP3 := hPq.kept (hf3.block mb hPq.lt (hTq.notc hmq)); have hbw3 : Below w.heap.size w w3 := hbwq.trans (hf3.below hbwq.size (fun k hk => (hTq.cd.ci.toCW.in k hk).1)); have hlook := hP3.look b hb12; rw [hPb] at hlook; have hbx3 : BI w3 (some ⟨g, 0, none⟩) 128 xs := row_bi how (by omega) (by rw [← hkx3]; exact (hcd3.ci.sec k3 hk3).2); have hrd3 := HRD.out w3 hT3.cd.di; have hxf : xs = S.f b := (by rw [← hkx3, hT3.dsk k3 hk3 (by rw [hkb3]; exact hPb), hkb3]))
            | (go_at_call 24; refine Calls.mono hrd3 ?_; rintro e w4 ⟨p4, c4, rfl, ho4, hd4, hf4⟩; have hT4 := hT3.read hd4 hf4; obtain ⟨es3, ck3, hm3⟩ := hP3.isMap; have hPr := hP3.kept (hf4.block mb hP3.lt (hT3.notd hm3)); have hbw4 : Below w.heap.size w w4 := hbw3.trans (hf4.below hbw3.size (fun k hk => (hT3.cd.di.in k hk).1)); have hsx : Num.Byt xs := (by rw [← hkx3]; exact (hcd3.ci.sec k3 hk3).2); have hb4 : BI w4 p4 128 xs := row_bi (by rw [hxf]; exact ho4) (by omega) hsx; have hx4 : BI w4 (some ⟨g, 0, none⟩) 128 xs := hbx3.row (hf4.block g how.spot.2 (by obtain ⟨cs5, h5⟩ := own_ty how rfl; exact hT3.cd.di.notin h5 (by decide) (by decide))); have heq := equal_any (some ⟨g, 0, none⟩) p4 128 cap 128 c4 xs xs w4 hx4 hb4; rw [show (xs == xs) = true by simp] at heq)
            | (go_at_call 25; refine same_at heq ?_)
            | (at_range; obtain ⟨D0, hown, hpd⟩ := hPr; refine wpList_range_own _ rfl _ 48 rfl 3 29 keyed3 Try.underlying48 slR mb (size D0) D0 rfl hown ?_; intro w0 hrg0 hg0 hs0))
          have hTr := hT4.later (below_of_grown hg0)
          have hbr := hbw4.grown hg0 hbw4.size (fun k hk => (by cases hk))
          go_frame
          go_loopw [21] (fun _ wz => ∃ (left : Lit → Bool) (cnt : Nat) (D : DataW Unit), wz.ranges Try.prog 3 slR mb w4.heap.size (size D0) D left cnt ∧ PtD D (Pl P C' left) ∧ TS w.heap.size wz c mc a dm df dq mb P C' S ∧ Below w.heap.size w wz) (fun _ wz => wz.rangeLeft mb w4.heap.size)
          case atStart => exact ⟨_, _, D0, hrg0, Pl_start hpd, hTr, hbr⟩
          case round =>
            clear hTr hbr hrg0 hg0 hs0 hown hpd
            obtain ⟨left, cnt, D, hrg, hpl, hTz, hbz⟩ := hrel
            go_wp2_with (first
              | (at_next; refine wpList_next_ranges _ rfl _ rfl 3 keyed3 slR (Value.int .i64) ptV (fun key kl hk => by obtain ⟨x, hx, _⟩ := Maps.keyOf_int_inv Try.underlying3 hk; exact ⟨x, hx⟩) (fun v y hv => slR_sh' hv) mb w4.heap.size (size D0) D left cnt rfl hrg ?_ ?_))
            · intro hc0 hl0
              obtain ⟨hTs, hHs⟩ := hTz.swept hl0
              have hPs : Pt wr mb (Pl P C' left) := ⟨D, tight hrg.owns, hpl⟩
              clear hTz
              go_wp2
              go_roundw
              case rel => exact ⟨j + 1, _, C', by omega, by go_num, hTs, hPs, hHs, hbd3.trans hbd, by omega, hbz⟩
              case measure => simp [intOf]; omega
            · intro xk vk kl yd yp w5 cnt5 hkey hlk hv hat2 hrg5 hlt5 hg5 hs5 hen
              obtain ⟨b', hb', rfl⟩ := hpl.1 kl (Maps.has_true_of_atKey hat2)
              obtain ⟨x', ex, ekl, _⟩ := Maps.keyOf_int_inv Try.underlying3 hkey
              obtain rfl : xk = (b' : Int) := by cases ex; simp [key] at ekl; omega
              have hT5 := hTz.but hg5 (.inl (by obtain ⟨_, _, _, _, _, _, _, _, _, hr, _⟩ := hrg; exact ⟨_, _, _, _, hr⟩))
              have hbw5 := hbz.grown hg5 hbz.size (fun k hk => (by cases hk; exact hbw4.size))
              have hheld := held_has hT5.cd
              clear hv ex ekl hTz
              by_cases hmm2 : (b' : Int) ∈ blks C'.L
              · have hdec : decide ((b' : Int) ∈ blks C'.L) = true := decide_eq_true hmm2
                go_wp2_with (first
                  | (go_at_call 11; refine Calls.mono hheld ?_; rintro e w6 ⟨p6, n6, c6, rfl, hn6, hb6, hcon⟩; clear hn6; have hc6 := hcon (b' : Int); rw [hdec] at hc6)
                  | (go_at_call 18; refine same_at hc6 ?_))
                have hrg6 := hrg5.kept (grown_of_below hb6 none) (by simp) (by simp)
                go_roundw
                case rel => exact ⟨_, cnt5, D, hrg6, Pl_stays hpl hmm2, hT5.later hb6, hbw5.trans (hb6.mono hbw5.size)⟩
                case measure => rw [hrg6.left_eq, hrg.left_eq]; exact hlt5
              · have hdec : decide ((b' : Int) ∈ blks C'.L) = false := decide_eq_false hmm2
                go_wp2_with (first
                  | (go_at_call 11; refine Calls.mono hheld ?_; rintro e w6 ⟨p6, n6, c6, rfl, hn6, hb6, hcon⟩; clear hn6; have hc6 := hcon (b' : Int); rw [hdec] at hc6; have hrg6 := hrg5.kept (grown_of_below hb6 none) (by simp) (by simp); have hT6 := hT5.later hb6; have hbw6 := hbw5.trans (hb6.mono hbw5.size))
                  | (go_at_call 18; refine same_at hc6 ?_)
                  | (at_delete; refine wpList_delete_ranges _ rfl _ _ 48 3 rfl 29 keyed3 Try.underlying48 slR mb w4.heap.size (size D0) D _ cnt5 rfl hrg6 _ _ rfl hkey ?_; intro w7 cnt7 hrg7 hle7 hturn7; go_frame))
                rw [strike_twice] at hrg7
                have hT7 := hT6.but hturn7.grown (.inr ⟨(by obtain ⟨es, ck, hm, _⟩ := hrg6.owns; exact ⟨es, ck, hm⟩), hT6.mbn.2⟩)
                have hbw7 := hbw6.grown hturn7.grown hbw6.size (fun k hk => (by cases hk; exact hT6.mbn.1))
                go_roundw
                case rel => exact ⟨_, cnt7, _, hrg7, Pl_goes hpl hmm2, hT7, hbw7⟩
                case measure => rw [hrg7.left_eq, hrg.left_eq]; omega
    · obtain rfl : j = m := by omega
      have hheld := held_has hT.cd
      have hle : ((C.L.length : Nat) : Int) ≤ (n' : Int) := by have := hT.cd.ci.len; omega
      clear hP hH
      go_wp2_with (first
        | (go_at_call 11; refine Calls.mono hheld ?_; rintro e w5 ⟨p5, n5, c5, rfl, rfl, hb5, _⟩))
      go_ret
      exact ⟨by first | rfl | exact ret_bool (by simp; omega) | exact ret_bool (by simp), hbw.trans (hb5.mono hbw.size)⟩
end Go.Proofs.Ytliljdencaocaaa
