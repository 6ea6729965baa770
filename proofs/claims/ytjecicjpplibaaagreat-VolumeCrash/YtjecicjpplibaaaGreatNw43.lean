/- PDos PGd -/
import Derived.Test.YtjecicjpplibaaaGreatNw31
import Derived.Test.YtjecicjpplibaaaGreatNw35
import Derived.Test.YtjecicjpplibaaaGreatNw30
import Derived.Test.YtjecicjpplibaaaGreatNw25

/- Calls that were handed in; the set that made makes of them, without its memory. -/
namespace Go.Proofs.YtjecicjpplibaaaGreat.Pt
open Go.RowKit Go.Maps
set_option maxRecDepth 100000
set_option linter.unusedVariables false

/-- A call. -/
structure Dv where
  op : Int
  blk : Int
  off : Int
  bytes : List Int
  ids : List Int
/-- A call's five cells. -/
structure DAt (w : World) (b o : Nat) (x : Dv) : Prop where
  c0 : w.cell? ⟨b, o, none⟩ = some (.int .i64 x.op)
  c1 : w.cell? ⟨b, o + 1, none⟩ = some (.int .i64 x.blk)
  c2 : w.cell? ⟨b, o + 2, none⟩ = some (.int .i64 x.off)
  c3 : ∃ p m c, w.cell? ⟨b, o + 3, none⟩ = some (.slice p m c) ∧ m ≤ c ∧ c ≤ 9223372036854775807 ∧ BI w p m x.bytes
  c4 : ∃ p m c, w.cell? ⟨b, o + 4, none⟩ = some (.slice p m c) ∧ m ≤ c ∧ c ≤ 9223372036854775807 ∧ m * 8 ≤ 140737488351232 ∧ II w p m x.ids
  r0 : I64 x.op
  r1 : I64 x.blk
  r2 : I64 x.off
/-- The slice at p, of n calls, holds D. -/
structure DI (w : World) (p : Option Addr) (n : Nat) (D : List Dv) : Prop where
  len : D.length = n
  big : n ≤ 140737488355328
  cells : 0 < n → ∃ b o, p = some ⟨b, o, none⟩ ∧ ∀ i x, D[i]? = some x → DAt w b (o + i * 5) x
theorem DAt.kept {w w' : World} {b o : Nat} {x : Dv} (h : DAt w b o x) (hb : Below w.heap.size w w') : DAt w' b o x := by
  have hlt := lt_of_cell h.c0
  have hk : ∀ j, w'.cell? ⟨b, j, none⟩ = w.cell? ⟨b, j, none⟩ := fun j => hb.cell (p := ⟨b, j, none⟩) hlt
  refine ⟨(hk _).trans h.c0, (hk _).trans h.c1, (hk _).trans h.c2, ?_, ?_, h.r0, h.r1, h.r2⟩
  · obtain ⟨p, m, c, e, r1, r2, r3⟩ := h.c3
    exact ⟨p, m, c, (hk _).trans e, r1, r2, r3.kept hb⟩
  · obtain ⟨p, m, c, e, r1, r2, r3, r4⟩ := h.c4
    exact ⟨p, m, c, (hk _).trans e, r1, r2, r3, r4.kept hb⟩
theorem DI.kept {w w' : World} {p : Option Addr} {n : Nat} {D : List Dv} (h : DI w p n D) (hb : Below w.heap.size w w') : DI w' p n D :=
  ⟨h.len, h.big, fun hn => by
    obtain ⟨b, o, e, hc⟩ := h.cells hn
    exact ⟨b, o, e, fun i x hx => (hc i x hx).kept hb⟩⟩

theorem u64_range (b : Int) : 0 ≤ IntKind.u64.wrap b ∧ IntKind.u64.wrap b < 18446744073709551616 := by
  rw [IntKind.wrap_u64]; omega
/-- A number modulo K, as it is told. -/
def mq (K : Nat) (b : Int) : Nat := ((IntKind.u64.wrap b).tmod (K : Int)).toNat
theorem mq_lt {K : Nat} (hK : 1 ≤ K) (b : Int) : mq K b < K := by
  have h := u64_range b
  unfold mq
  generalize IntKind.u64.wrap b = u at *
  have h1 := Int.tmod_lt_of_pos u (show (0 : Int) < (K : Int) by omega)
  have h2 := Int.tmod_nonneg (K : Int) h.1
  omega
theorem mq_eq {K : Nat} (hK : 1 ≤ K) (b : Int) : (IntKind.u64.wrap b).tmod (K : Int) = (mq K b : Int) := by
  have h := u64_range b
  unfold mq
  generalize IntKind.u64.wrap b = u at *
  have h2 := Int.tmod_nonneg (K : Int) h.1
  omega
theorem mq_wrap {K : Nat} (hK : 1 ≤ K) (hK2 : K ≤ 4611686018427387904) (b : Int) : wrap64 ((IntKind.u64.wrap b).tmod (K : Int)) = (mq K b : Int) := by
  have h1 := mq_lt hK b
  rw [mq_eq hK]
  unfold wrap64
  omega

/-- A patch without its memory. -/
def strip (p : Pv) : Pv := { p with bp := none, bc := 0, np := none, nc := 0 }
theorem fP_strip (P : List Pv) (k : Int) : fP (P.map strip) k = (fP P k).map strip := by
  unfold fP
  rw [List.find?_map]
  rfl
theorem still_strip (P : List Pv) (zs : List Int) : still (P.map strip) zs = still P zs := by
  unfold still
  apply List.filter_congr
  intro k _
  rw [fP_strip, Option.isSome_map]
theorem ofB_strip (P : List Pv) (b : Int) : ofB (P.map strip) b = (ofB P b).map strip := by
  unfold ofB
  rw [List.filter_map]
  rfl
theorem upS_strip (p u : Pv) (s : List Bool × Int) : upS p (strip u) s = upS p u s := rfl
theorem upI_strip (p u : Pv) (s : List Bool × Int) (I : List Int) : upI p (strip u) s I = upI p u s I := rfl
theorem uppF_strip (p : Pv) : ∀ (l : List Pv) (s : List Bool × Int) (I : List Int), uppF p (l.map strip) s I = uppF p l s I
  | [], _, _ => rfl
  | u :: l, s, I => by
    rw [List.map_cons]
    unfold uppF
    rw [upS_strip, upI_strip, uppF_strip p l]
theorem uppL_strip (P : List Pv) (p : Pv) : uppL (P.map strip) p = uppL P p := by
  unfold uppL
  rw [ofB_strip, ← List.map_reverse, uppF_strip]

/-- What a call's patch has. -/
def bsOf (d : Dv) : List Int := if d.bytes.take 128 = [] then [1] else d.bytes.take 128
def zsOf (n : Nat) (ids : List Int) : List Int := if n = 0 then [] else ids.map (fun x => 1 + (mq n x : Int))
def newP (n : Nat) (d : Dv) : Pv := { id := n + 1, blk := mq 5 d.blk, off := mq (129 - (bsOf d).length) d.off, bs := bsOf d, nd := [], bp := none, bc := 0, np := none, nc := 0 }
def mk1 (S : List Pv) (d : Dv) : List Pv := S ++ [{ newP S.length d with nd := rs (still S (zsOf S.length d.ids) ++ uppL S (newP S.length d)) }]
def mkS (D : List Dv) : List Pv := D.foldl mk1 []
theorem mkS_snoc (D : List Dv) (d : Dv) : mkS (D ++ [d]) = mk1 (mkS D) d := by unfold mkS; rw [List.foldl_append]; rfl
theorem mk1_len (S : List Pv) (d : Dv) : (mk1 S d).length = S.length + 1 := by simp [mk1]
theorem mkS_len : ∀ (D : List Dv) (S : List Pv), (D.foldl mk1 S).length = S.length + D.length
  | [], S => rfl
  | d :: D, S => by
    rw [List.foldl_cons, mkS_len D, mk1_len, List.length_cons]
    omega
theorem bsOf_len (d : Dv) : 1 ≤ (bsOf d).length ∧ (bsOf d).length ≤ 128 := by
  unfold bsOf
  split
  · simp
  · rename_i h
    have : (d.bytes.take 128).length ≠ 0 := fun e => h (List.length_eq_zero_iff.1 e)
    simp only [List.length_take] at this ⊢
    omega
end Go.Proofs.YtjecicjpplibaaaGreat.Pt

/- What patches keep as needs is enough: byte by byte, all that lies below is reached. -/
namespace Go.Proofs.YtjecicjpplibaaaGreat.Pt
open Go.RowKit Go.Maps
set_option maxRecDepth 100000
set_option linter.unusedVariables false

/-- What is known of patches: by their numbers; needs sorted, below; of each place, the next one below is needed. -/
structure Gd (P : List Pv) : Prop where
  srt : P.Pairwise (fun p q => p.id < q.id)
  nds : ∀ p ∈ P, p.nd.Pairwise (fun x y => x < y)
  low : ∀ p ∈ P, ∀ x ∈ p.nd, 1 ≤ x ∧ x < (p.id : Int)
  cov : ∀ p ∈ P, ∀ q ∈ P, q.id < p.id → q.blk = p.blk → ∀ i, cvs1 p i → cvs1 q i → ∃ u ∈ P, u.blk = p.blk ∧ (u.id : Int) ∈ p.nd ∧ cvs1 u i ∧ q.id ≤ u.id

theorem gd_nil : Gd [] := ⟨List.Pairwise.nil, (fun p hp => by cases hp), (fun p hp => by cases hp), (fun p hp => by cases hp)⟩

theorem mem_still {P : List Pv} {zs : List Int} {x : Int} : x ∈ still P zs ↔ x ∈ zs ∧ (fP P x).isSome = true := by
  unfold still; rw [List.mem_filter]

theorem fP_isSome {P : List Pv} {k : Int} : (fP P k).isSome = true ↔ ∃ p ∈ P, (p.id : Int) = k := by
  unfold fP
  rw [List.find?_isSome]
  simp

theorem Gd.add {P : List Pv} {pn : Pv} {last : Nat} {zs : List Int} (h : Gd P) (hP : ∀ p ∈ P, 1 ≤ p.id ∧ p.id ≤ last) (hid : pn.id = last + 1) (hof : pn.off + pn.bs.length ≤ 128) (hnd : pn.nd = rs (still P zs ++ uppL P pn)) : Gd (P ++ [pn]) := by
  obtain ⟨hu1, hu2⟩ := uppL_ok h.srt hof
  refine ⟨List.pairwise_append.2 ⟨h.srt, by simp, fun p hp q hq => ?_⟩, fun p hp => ?_, fun p hp x hx => ?_, fun p hp q hq hlt hbl i hi hj => ?_⟩
  · have := hP p hp
    rw [List.mem_singleton] at hq
    subst hq
    omega
  · rcases List.mem_append.1 hp with hp | hp
    · exact h.nds p hp
    · rw [List.mem_singleton] at hp
      subst hp
      rw [hnd]; exact rs_sorted _
  · rcases List.mem_append.1 hp with hp | hp
    · exact h.low p hp x hx
    · rw [List.mem_singleton] at hp
      subst hp
      rw [hnd, mem_rs, List.mem_append] at hx
      rcases hx with hx | hx
      · obtain ⟨q, hq, rfl⟩ := fP_isSome.1 (mem_still.1 hx).2
        have := hP q hq
        omega
      · obtain ⟨u, hu, rfl, _⟩ := hu1 x hx
        have := hP u (mem_ofB.1 hu).1
        omega
  · rcases List.mem_append.1 hp with hp' | hp
    · rcases List.mem_append.1 hq with hq | hq
      · obtain ⟨u, hu, r⟩ := h.cov p hp' q hq hlt hbl i hi hj
        exact ⟨u, List.mem_append_left _ hu, r⟩
      · rw [List.mem_singleton] at hq
        subst hq
        have := hP p hp'
        omega
    · rw [List.mem_singleton] at hp
      subst hp
      rcases List.mem_append.1 hq with hq | hq
      · obtain ⟨u, hu, hu3, hu4, hu5⟩ := hu2 i hi q (mem_ofB.2 ⟨hq, by rw [hbl]⟩) hj
        have hu6 := mem_ofB.1 hu
        exact ⟨u, List.mem_append_left _ hu6.1, by omega, by rw [hnd, mem_rs]; exact List.mem_append_right _ hu3, hu4, hu5⟩
      · rw [List.mem_singleton] at hq
        subst hq
        omega

/-- A set of numbers that has, of each of its patches, all that this keeps as needs. -/
def Cl (P : List Pv) (C : List Int) : Prop := ∀ p ∈ P, (p.id : Int) ∈ C → lk P C p = false
theorem lk_false {P : List Pv} {C : List Int} {p : Pv} : lk P C p = false ↔ ∀ x ∈ p.nd, (fP P x).isSome = true → x ∈ C := by
  unfold lk
  rw [List.any_eq_false]
  constructor
  · intro h x hx hs
    have := h x hx
    unfold wq at this
    simpa [hs] using this
  · intro h x hx
    unfold wq
    by_cases hs : (fP P x).isSome = true
    · have := h x hx hs
      simp [this]
    · simp [hs]

theorem Gd.full {P : List Pv} (h : Gd P) {C : List Int} (hC : Cl P C) : ∀ (n : Nat) (p : Pv), p ∈ P → p.id ≤ n → (p.id : Int) ∈ C → ∀ q ∈ P, q.id < p.id → q.blk = p.blk → ∀ i, cvs1 p i → cvs1 q i → (q.id : Int) ∈ C
  | 0, p, hp, hn, hpC, q, hq, hlt, hbl, i, hi, hj => by omega
  | n + 1, p, hp, hn, hpC, q, hq, hlt, hbl, i, hi, hj => by
    obtain ⟨u, hu, hub, hun, huc, hqu⟩ := h.cov p hp q hq hlt hbl i hi hj
    have huC : (u.id : Int) ∈ C := lk_false.1 (hC p hp hpC) _ hun (fP_isSome.2 ⟨u, hu, rfl⟩)
    have hul := (h.low p hp _ hun).2
    rcases Nat.lt_or_ge q.id u.id with hl | hl
    · exact Gd.full h hC n u hu (by omega) huC q hq hl (by rw [hbl, hub]) i huc hj
    · have : q.id = u.id := by omega
      rw [this]; exact huC

theorem Gd.kp {P : List Pv} (h : Gd P) {zs : List Int} (hz : (still P zs).any (bad P zs) = false) : Gd (kpP P zs) := by
  have hC : Cl P zs := fun p hp hpz => by
    have h1 := List.any_eq_false.1 hz (p.id : Int) (mem_still.2 ⟨hpz, fP_isSome.2 ⟨p, hp, rfl⟩⟩)
    unfold bad at h1
    rw [fP_mem h.srt hp] at h1
    simpa using h1
  refine ⟨List.Pairwise.filter _ h.srt, fun p hp => h.nds p (mem_kpP.1 hp).1, fun p hp => h.low p (mem_kpP.1 hp).1, fun p hp q hq hlt hbl i hi hj => ?_⟩
  obtain ⟨hp1, hp2⟩ := mem_kpP.1 hp
  obtain ⟨hq1, hq2⟩ := mem_kpP.1 hq
  obtain ⟨u, hu, hub, hun, huc, hqu⟩ := h.cov p hp1 q hq1 hlt hbl i hi hj
  refine ⟨u, mem_kpP.2 ⟨hu, fun huz => hq2 ?_⟩, hub, hun, huc, hqu⟩
  rcases Nat.lt_or_ge q.id u.id with hl | hl
  · exact Gd.full h hC u.id u hu (Nat.le_refl _) huz q hq1 hl (by rw [hbl, hub]) i huc hj
  · have : q.id = u.id := by omega
    rw [this]; exact huz

theorem Gd.up {P : List Pv} (h : Gd P) (l : Nat) : Gd (upP P l) := by
  have hm : ∀ p, p ∈ upP P l ↔ p ∈ P ∧ p.id ≤ l := fun p => by unfold upP; rw [List.mem_filter, decide_eq_true_iff]
  refine ⟨List.Pairwise.filter _ h.srt, fun p hp => h.nds p ((hm p).1 hp).1, fun p hp => h.low p ((hm p).1 hp).1, fun p hp q hq hlt hbl i hi hj => ?_⟩
  obtain ⟨hp1, hp2⟩ := (hm p).1 hp
  obtain ⟨hq1, hq2⟩ := (hm q).1 hq
  obtain ⟨u, hu, hub, hun, huc, hqu⟩ := h.cov p hp1 q hq1 hlt hbl i hi hj
  have := (h.low p hp1 _ hun).2
  exact ⟨u, (hm u).2 ⟨hu, by omega⟩, hub, hun, huc, hqu⟩

/-- Without its memory a set is as good. -/
theorem gd_strip {P : List Pv} : Gd (P.map strip) → Gd P := fun h => by
  have hm : ∀ p ∈ P, strip p ∈ P.map strip := fun p hp => List.mem_map_of_mem hp
  refine ⟨?_, fun p hp => (by have := h.nds _ (hm p hp); exact this), fun p hp => (by have := h.low _ (hm p hp); exact this), fun p hp q hq hlt hbl i hi hj => ?_⟩
  · have := h.srt
    rw [List.pairwise_map] at this
    exact this
  · obtain ⟨u, hu, r⟩ := h.cov _ (hm p hp) _ (hm q hq) hlt hbl i hi hj
    obtain ⟨u', hu', rfl⟩ := List.mem_map.1 hu
    exact ⟨u', hu', r⟩

theorem Gd.ndl {P : List Pv} (h : Gd P) {p : Pv} (hp : p ∈ P) (hl : p.id ≤ 1000) : p.nd.length ≤ 1000 :=
  Nat.le_trans (nodup_len p.id p.nd ((h.nds p hp).imp (fun h => Int.ne_of_lt h)) (fun x hx => by have := h.low p hp x hx; omega)) hl

theorem uppF_nd (p : Pv) (z : List Int) : ∀ (l : List Pv) (s : List Bool × Int) (I : List Int), uppF { p with nd := z } l s I = uppF p l s I
  | [], _, _ => rfl
  | u :: l, s, I => by
    unfold uppF
    rw [show upS { p with nd := z } u s = upS p u s from rfl, show upI { p with nd := z } u s I = upI p u s I from rfl, uppF_nd p z l]
theorem uppL_nd (P : List Pv) (p : Pv) (z : List Int) : uppL P { p with nd := z } = uppL P p := uppF_nd p z _ _ _
/-- What made makes. -/
theorem mk_good : ∀ (D : List Dv) (S : List Pv), Gd S → (∀ p ∈ S, 1 ≤ p.id ∧ p.id ≤ S.length) → (∀ k : Int, 1 ≤ k → k ≤ (S.length : Int) → (fP S k).isSome = true) → Gd (D.foldl mk1 S) ∧ (∀ p ∈ D.foldl mk1 S, 1 ≤ p.id ∧ p.id ≤ (D.foldl mk1 S).length) ∧ (∀ k : Int, 1 ≤ k → k ≤ ((D.foldl mk1 S).length : Int) → (fP (D.foldl mk1 S) k).isSome = true)
  | [], S, h1, h2, h3 => ⟨h1, h2, h3⟩
  | d :: D, S, h1, h2, h3 => by
    rw [List.foldl_cons]
    have hb := bsOf_len d
    have hq := mq_lt (K := 129 - (bsOf d).length) (by omega) d.off
    have hlen : (mk1 S d).length = S.length + 1 := mk1_len S d
    refine mk_good D (mk1 S d) ?_ ?_ ?_
    · unfold mk1
      exact h1.add (last := S.length) (zs := zsOf S.length d.ids) h2 rfl (by show mq (129 - (bsOf d).length) d.off + (bsOf d).length ≤ 128; omega) (by dsimp only; exact congrArg (fun z => rs (still S (zsOf S.length d.ids) ++ z)) (uppL_nd S (newP S.length d) _).symm)
    · intro p hp
      rw [hlen]
      unfold mk1 at hp
      rcases List.mem_append.1 hp with hp | hp
      · have := h2 p hp; omega
      · rw [List.mem_singleton] at hp
        subst hp
        exact ⟨by show 1 ≤ S.length + 1; omega, Nat.le_refl _⟩
    · intro k hk1 hk2
      rw [hlen] at hk2
      unfold mk1
      rw [fP_isSome]
      by_cases hk : k ≤ (S.length : Int)
      · obtain ⟨p, hp, e⟩ := fP_isSome.1 (h3 k hk1 hk)
        exact ⟨p, List.mem_append_left _ hp, e⟩
      · exact ⟨_, List.mem_append_right _ (List.mem_singleton.2 rfl), by show ((S.length + 1 : Nat) : Int) = k; omega⟩
theorem mkS_good (D : List Dv) : Gd (mkS D) ∧ (∀ k : Int, 1 ≤ k → k ≤ (D.length : Int) → (fP (mkS D) k).isSome = true) := by
  obtain ⟨h1, h2, h3⟩ := mk_good D [] gd_nil (fun p hp => by cases hp) (fun k h1 h2 => by simp at h2; omega)
  refine ⟨h1, fun k hk1 hk2 => h3 k hk1 ?_⟩
  rw [mkS_len]; simpa using hk2

/-- What is chosen: each of them has what it keeps as needs. -/
theorem pst_closed (P : List Pv) : ∀ (l : List Pv) (s : List Int × List Int), (∀ x ∈ s.1, x ∈ (pst P l s).1) ∧ (∀ x ∈ (pst P l s).1, x ∈ s.1 ∨ ∃ p ∈ l, (p.id : Int) = x ∧ lk P (pst P l s).1 p = false)
  | [], s => ⟨fun x hx => hx, fun x hx => .inl hx⟩
  | p :: l, s => by
    obtain ⟨h1, h2⟩ := pst_closed P l (nextC P s.1 p, nextO P s.1 s.2 p)
    rw [show pst P (p :: l) s = pst P l (nextC P s.1 p, nextO P s.1 s.2 p) from rfl]
    have hsub : ∀ x ∈ s.1, x ∈ nextC P s.1 p := fun x hx => by
      unfold nextC; split
      · exact hx
      · exact List.mem_append_left _ hx
    refine ⟨fun x hx => h1 x (hsub x hx), fun x hx => ?_⟩
    rcases h2 x hx with h | ⟨q, hq, e, r⟩
    · dsimp only at h
      unfold nextC at h
      by_cases hl : lk P s.1 p = true
      · rw [if_pos hl] at h; exact .inl h
      · rw [if_neg hl] at h
        rcases List.mem_append.1 h with h | h
        · exact .inl h
        · rw [List.mem_singleton] at h
          refine .inr ⟨p, List.mem_cons_self, h.symm, lk_false.2 (fun y hy hs => h1 y (hsub y (lk_false.1 (by simpa using hl) y hy hs)))⟩
    · exact .inr ⟨q, List.mem_cons_of_mem _ hq, e, r⟩

theorem pst_nodup (P : List Pv) : ∀ (l : List Pv) (s : List Int × List Int), s.1.Nodup → l.Pairwise (fun p q => p.id < q.id) → (∀ x ∈ s.1, ∀ p ∈ l, x ≠ (p.id : Int)) → (pst P l s).1.Nodup
  | [], s, h, _, _ => h
  | p :: l, s, h, hs, hn => by
    rw [show pst P (p :: l) s = pst P l (nextC P s.1 p, nextO P s.1 s.2 p) from rfl]
    have hs' := List.pairwise_cons.1 hs
    refine pst_nodup P l _ ?_ hs'.2 (fun x hx q hq => ?_)
    · dsimp only; unfold nextC; split
      · exact h
      · rw [List.nodup_append]
        exact ⟨h, by simp, fun x hx y hy => by rw [List.mem_singleton] at hy; rw [hy]; exact hn x hx p List.mem_cons_self⟩
    · dsimp only at hx; unfold nextC at hx
      split at hx
      · exact hn x hx q (List.mem_cons_of_mem _ hq)
      · rcases List.mem_append.1 hx with hx | hx
        · exact hn x hx q (List.mem_cons_of_mem _ hq)
        · rw [List.mem_singleton] at hx
          have := hs'.1 q hq
          omega

theorem Gd.planned {P : List Pv} (h : Gd P) (b : Int) (xs : List Int) : Cl P (pst P (ofB P b) ([], xs)).1 ∧ ∀ x ∈ (pst P (ofB P b) ([], xs)).1, ∃ p ∈ P, (p.id : Int) = x ∧ (p.blk : Int) = b := by
  have h2 := (pst_closed P (ofB P b) ([], xs)).2
  refine ⟨fun p hp hx => ?_, fun x hx => ?_⟩
  · rcases h2 _ hx with h' | ⟨q, hq, e, r⟩
    · cases h'
    · have hqP := (mem_ofB.1 hq).1
      have e1 := fP_mem h.srt hp
      have e2 := fP_mem h.srt hqP
      rw [e, e1] at e2
      have : p = q := Option.some.inj e2
      rw [this]; exact r
  · rcases h2 _ hx with h' | ⟨q, hq, e, r⟩
    · cases h'
    · exact ⟨q, (mem_ofB.1 hq).1, e, (mem_ofB.1 hq).2⟩

theorem bad_none {P : List Pv} (h : Gd P) {C : List Int} (hC : Cl P C) : (still P C).any (bad P C) = false := by
  rw [List.any_eq_false]
  intro x hx
  obtain ⟨h1, h2⟩ := mem_still.1 hx
  obtain ⟨p, hp, rfl⟩ := fP_isSome.1 h2
  unfold bad
  rw [fP_mem h.srt hp]
  simpa using hC p hp h1

theorem und_i {p q : Pv} (h : und p q = true) (h1 : 1 ≤ p.bs.length) (h2 : 1 ≤ q.bs.length) : q.id < p.id ∧ ∃ i, cvs1 p i ∧ cvs1 q i := by
  unfold und at h
  simp only [Bool.and_eq_true, decide_eq_true_iff] at h
  refine ⟨h.1, max p.off q.off, ?_⟩
  unfold cvs1 endP at *
  omega

theorem mem_anIs (p : Pv) : ∀ (l : List Pv) (I : List Int) (x : Int), x ∈ anIs p l I ↔ x ∈ I ∨ ∃ q ∈ l, und p q = true ∧ (q.id : Int) = x
  | [], I, x => by simp [anIs]
  | q :: l, I, x => by
    rw [show anIs p (q :: l) I = anIs p l (anI p q I) from rfl, mem_anIs p l]
    unfold anI
    by_cases hu : und p q = true
    · rw [if_pos hu, List.mem_append, List.mem_singleton]
      constructor
      · rintro ((h | h) | ⟨r, hr, h1, h2⟩)
        · exact .inl h
        · exact .inr ⟨q, List.mem_cons_self, hu, h.symm⟩
        · exact .inr ⟨r, List.mem_cons_of_mem _ hr, h1, h2⟩
      · rintro (h | ⟨r, hr, h1, h2⟩)
        · exact .inl (.inl h)
        · rcases List.mem_cons.1 hr with rfl | hr
          · exact .inl (.inr h2.symm)
          · exact .inr ⟨r, hr, h1, h2⟩
    · rw [if_neg hu]
      constructor
      · rintro (h | ⟨r, hr, h1, h2⟩)
        · exact .inl h
        · exact .inr ⟨r, List.mem_cons_of_mem _ hr, h1, h2⟩
      · rintro (h | ⟨r, hr, h1, h2⟩)
        · exact .inl h
        · rcases List.mem_cons.1 hr with rfl | hr
          · exact absurd h1 hu
          · exact .inr ⟨r, hr, h1, h2⟩

theorem mem_ndOf {P : List Pv} {p : Pv} {x : Int} : x ∈ ndOf P p ↔ (x ∈ p.nd ∧ (fP P x).isSome = true) ∨ ∃ q ∈ P, (q.blk : Int) = (p.blk : Int) ∧ und p q = true ∧ (q.id : Int) = x := by
  unfold ndOf
  rw [mem_rs, mem_anIs, mem_still]
  constructor
  · rintro (h | ⟨q, hq, r⟩)
    · exact .inl h
    · exact .inr ⟨q, (mem_ofB.1 hq).1, (mem_ofB.1 hq).2, r⟩
  · rintro (h | ⟨q, hq, h1, r⟩)
    · exact .inl h
    · exact .inr ⟨q, mem_ofB.2 ⟨hq, h1⟩, r⟩

/-- What has of each patch what it keeps as needs has all that it needs. -/
theorem Gd.whole {P : List Pv} (h : Gd P) (hl : ∀ p ∈ P, 1 ≤ p.bs.length) {C : List Int} (hC : Cl P C) {p : Pv} (hp : p ∈ P) (hpC : (p.id : Int) ∈ C) : ∀ x ∈ ndOf P p, x < (p.id : Int) ∧ x ∈ C := by
  intro x hx
  rcases mem_ndOf.1 hx with ⟨h1, h2⟩ | ⟨q, hq, hbl, hu, rfl⟩
  · exact ⟨(h.low p hp x h1).2, lk_false.1 (hC p hp hpC) x h1 h2⟩
  · obtain ⟨hlt, i, hi, hj⟩ := und_i hu (hl p hp) (hl q hq)
    exact ⟨by omega, h.full hC p.id p hp (Nat.le_refl _) hpC q hq hlt (by omega) i hi hj⟩
end Go.Proofs.YtjecicjpplibaaaGreat.Pt
