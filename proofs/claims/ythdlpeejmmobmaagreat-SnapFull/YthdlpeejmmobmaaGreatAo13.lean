/- PRem PDone PUpm -/
import Derived.Test.YthdlpeejmmobmaaGreatAo12
import Derived.Test.YthdlpeejmmobmaaGreatAo11

namespace Go.Proofs.YthdlpeejmmobmaaGreat.Pt
open Go.RowKit Go.Maps
set_option maxRecDepth 100000
set_option linter.unusedVariables false

/-- The patches that are left. -/
def kpP (P : List Pv) (zs : List Int) : List Pv := P.filter (fun p => !decide ((p.id : Int) ∈ zs))
theorem mem_kpP {P : List Pv} {zs : List Int} {p : Pv} : p ∈ kpP P zs ↔ p ∈ P ∧ (p.id : Int) ∉ zs := by
  unfold kpP; rw [List.mem_filter]; simp
/-- The set while its blocks' numbers are gone through: those of nd are done. -/
structure RS (B : Nat) (w wr : World) (a mp mb last : Nat) (P P' : List Pv) (K : Int → Option Value) (nd : Int → Bool) (Kj : Int → Option Value) : Prop where
  row : wr.heap[a]? = some (.cells #[.int .i64 (last : Int), .map (some mp), .map (some mb)] 215 (0, 0))
  pm : Mf wr mp last (fun k => (fP P' k).map Pv.v)
  bm : Mf wr mb P.length Kj
  rows : ∀ b v, Kj b = some v → I64 b ∧ wr.ownsRow B 3 1 v (if nd b then idsOf P' b else idsOf P b).length ((if nd b then idsOf P' b else idsOf P b).map (Value.int .i64)) ∧ (if nd b then idsOf P' b else idsOf P b) ≠ []
  away : ∀ b, I64 b → Kj b = none → (if nd b then idsOf P' b else idsOf P b) = []
  two : ∀ b b' v v', Kj b = some v → Kj b' = some v' → v.ownBlock = v'.ownBlock → b = b'
  new : ∀ b v g, Kj b = some v → v.ownBlock = some g → K b = some v ∨ w.heap.size ≤ g
  fr : Frame (fun k => k = mp ∨ k = mb) w wr

theorem nums_own {B : Nat} {w : World} {v : Value} {zs : List Int} (h : Nums B w v zs) (hz : zs ≠ []) : ∃ g, v.ownBlock = some g := by
  rcases h.2 with ⟨_, e⟩ | ⟨g, cap, cur, e, _⟩
  · exact absurd (List.length_eq_zero_iff.1 e) hz
  · exact ⟨g, by rw [e]; rfl⟩

theorem RS.step {B : Nat} {w wr w5 w6 : World} {a mp mb last : Nat} {P P' : List Pv} {K : Int → Option Value} {nd nd' : Int → Bool} {Kj : Int → Option Value} (h : RS B w wr a mp mb last P P' K nd Kj) (hne : mp ≠ mb)
    (hb : Below wr.heap.size wr w5) (hg : w5.grownBy w6 (some mb)) (b : Int) (hI : I64 b) (u : Option Value) (hM : Mf w6 mb P.length (fput Kj b u))
    (hu : (u = none ∧ idsOf P' b = []) ∨ ∃ v, u = some v ∧ Nums wr.heap.size w5 v (idsOf P' b) ∧ idsOf P' b ≠ []) (hnd : ∀ x, nd' x = if x = b then true else nd x) (hB : B ≤ wr.heap.size) :
    RS B w w6 a mp mb last P P' K nd' (fput Kj b u) := by
  obtain ⟨eb, cb, hmb⟩ := h.bm.isMap
  have hmb5 : w5.heap[mb]? = some (.map eb cb) := by rw [hb.block mb h.bm.lt]; exact hmb
  have hkp : ∀ k, k < wr.heap.size → k ≠ mb → w6.heap[k]? = wr.heap[k]? := fun k hk hn => by
    rw [hg.block k (Nat.lt_of_lt_of_le hk hb.size) (fun e => hn (by cases e; rfl)), hb.block k hk]
  have hz := h.fr.size
  have hnb : nd' b = true := by rw [hnd, if_pos rfl]
  have hno : ∀ x, x ≠ b → nd' x = nd x := fun x hx => by rw [hnd, if_neg hx]
  have hcell : ∀ {g : Nat} {cs : Array Value} {t : TypeId} {fr : Nat × Nat}, w5.heap[g]? = some (.cells cs t fr) → g ≠ mb := fun hc e => by
    subst e; rw [hmb5] at hc; cases hc
  refine ⟨?_, ?_, hM, ?_, ?_, ?_, ?_, ?_⟩
  · rw [hkp a (Array.getElem?_eq_some_iff.1 h.row).1 (map_ne h.row hmb)]; exact h.row
  · exact h.pm.kept (hkp mp h.pm.lt hne)
  · intro x v hv
    by_cases e : x = b
    · subst e
      rw [fput_same] at hv
      rcases hu with ⟨hu, _⟩ | ⟨v2, hu, hN, hne2⟩
      · rw [hu] at hv; cases hv
      · rw [hu] at hv
        cases hv
        rw [hnb]
        simp only [if_true]
        refine ⟨hI, ?_, hne2⟩
        refine row_keptIf (hN.base hB) (fun g hg' => ?_)
        obtain ⟨cs, hc⟩ := row_ty hN hg'
        exact hg.block g (World.ownsRow.lt hN g hg').2 (fun e => hcell hc (by cases e; rfl))
    · rw [fput_other _ e] at hv
      rw [hno x e]
      obtain ⟨h1, h2, h3⟩ := h.rows x v hv
      refine ⟨h1, row_keptIf h2 (fun g hg' => ?_), h3⟩
      obtain ⟨cs, hc⟩ := row_ty h2 hg'
      exact hkp g (h2.lt g hg').2 (fun e => by subst e; rw [hmb] at hc; cases hc)
  · intro x hx hn
    by_cases e : x = b
    · subst e
      rw [fput_same] at hn
      rw [hnb]
      simp only [if_true]
      rcases hu with ⟨_, hu⟩ | ⟨v2, hu, _⟩
      · exact hu
      · rw [hu] at hn; cases hn
    · rw [fput_other _ e] at hn
      rw [hno x e]
      exact h.away x hx hn
  · have key : ∀ x v v2, x ≠ b → Kj x = some v → u = some v2 → v.ownBlock ≠ v2.ownBlock := fun x v v2 hx hv hu2 eq => by
      rcases hu with ⟨hu, _⟩ | ⟨v3, hu, hN, hne2⟩
      · rw [hu] at hu2; cases hu2
      · rw [hu] at hu2
        cases hu2
        obtain ⟨g, hg'⟩ := nums_own hN hne2
        have h1 := (World.ownsRow.lt hN g hg').1
        have h2 := ((h.rows x v hv).2.1.lt g (by rw [eq]; exact hg')).2
        omega
    intro x y v v2 hv hv2 eq
    by_cases e : x = b
    · by_cases e2 : y = b
      · rw [e, e2]
      · rw [e, fput_same] at hv
        rw [fput_other _ e2] at hv2
        exact absurd eq.symm (key y v2 v e2 hv2 hv)
    · by_cases e2 : y = b
      · rw [e2, fput_same] at hv2
        rw [fput_other _ e] at hv
        exact absurd eq (key x v v2 e hv hv2)
      · rw [fput_other _ e] at hv
        rw [fput_other _ e2] at hv2
        exact h.two x y v v2 hv hv2 eq
  · intro x v g hv hg'
    by_cases e : x = b
    · subst e
      rw [fput_same] at hv
      rcases hu with ⟨hu, _⟩ | ⟨v2, hu, hN, _⟩
      · rw [hu] at hv; cases hv
      · rw [hu] at hv
        cases hv
        exact .inr (Nat.le_trans hz (World.ownsRow.lt hN g hg').1)
    · rw [fput_other _ e] at hv
      exact h.new x v g hv hg'
  · refine h.fr.trans ⟨hg.os.trans hb.os, hg.tape.trans hb.tape, hg.output.trans hb.output, Nat.le_trans hb.size hg.size, fun k hk hn => hkp k hk (fun e => hn (.inr e))⟩

theorem RS.later {B : Nat} {w wr w5 : World} {a mp mb last : Nat} {P P' : List Pv} {K : Int → Option Value} {nd : Int → Bool} {Kj : Int → Option Value} (h : RS B w wr a mp mb last P P' K nd Kj) {row : Option Nat} (hg : wr.grownBy w5 row)
    (hr : ∀ r, row = some r → w.heap.size ≤ r ∧ ∃ o : Obj, wr.heap[r]? = some o ∧ ∀ es ck, o ≠ .map es ck ∧ ∀ cs t fr, o ≠ .cells cs t fr) : RS B w w5 a mp mb last P P' K nd Kj := by
  have hc : ∀ {k : Nat} {cs : Array Value} {t : TypeId} {fr : Nat × Nat}, wr.heap[k]? = some (.cells cs t fr) → w5.heap[k]? = wr.heap[k]? := fun {k cs t fr} hk => hg.block k (Array.getElem?_eq_some_iff.1 hk).1 (fun e => by
    obtain ⟨_, o, ho, hn⟩ := hr k e.symm
    rw [hk] at ho
    exact (hn #[] 0).2 _ _ _ (Option.some.inj ho).symm)
  have hm : ∀ {k : Nat} {es : Array MapEntry} {ck : Nat}, wr.heap[k]? = some (.map es ck) → w5.heap[k]? = wr.heap[k]? := fun {k es ck} hk => hg.block k (Array.getElem?_eq_some_iff.1 hk).1 (fun e => by
    obtain ⟨_, o, ho, hn⟩ := hr k e.symm
    rw [hk] at ho
    exact (hn _ _).1 (Option.some.inj ho).symm)
  obtain ⟨ep, cp, hmp⟩ := h.pm.isMap
  obtain ⟨eb, cb, hmb⟩ := h.bm.isMap
  refine ⟨by rw [hc h.row]; exact h.row, h.pm.kept (hm hmp), h.bm.kept (hm hmb), fun b v hv => ?_, h.away, h.two, h.new, ⟨hg.os.trans h.fr.os, hg.tape.trans h.fr.tape, hg.output.trans h.fr.output, Nat.le_trans h.fr.size hg.size, fun k hk hn => (hg.block k (Nat.lt_of_lt_of_le hk h.fr.size) (fun e => by have := (hr k e.symm).1; omega)).trans (h.fr.block k hk hn)⟩⟩
  · obtain ⟨h1, h2, h3⟩ := h.rows b v hv
    refine ⟨h1, row_keptIf h2 (fun g hg' => ?_), h3⟩
    obtain ⟨cs, hcs⟩ := row_ty h2 hg'
    exact hc hcs

theorem RS.fin {B : Nat} {w wr : World} {a mp mb last : Nat} {P : List Pv} {zs : List Int} {K : Int → Option Value} {nd : Int → Bool} {Kj : Int → Option Value} (h0 : PS B w a mp mb last P K) (h : RS B w wr a mp mb last P (kpP P zs) K nd Kj)
    (hnd : ∀ b, nd b = false → idsOf (kpP P zs) b = idsOf P b) : PS B wr a mp mb last (kpP P zs) Kj ∧ Stp (dm a mp mb P K) (dm a mp mb (kpP P zs) Kj) w wr := by
  have hid : ∀ b, (if nd b then idsOf (kpP P zs) b else idsOf P b) = idsOf (kpP P zs) b := fun b => by
    cases e : nd b with
    | true => rfl
    | false => exact (hnd b e).symm
  have hsub : ∀ p ∈ kpP P zs, p ∈ P := fun p hp => (mem_kpP.1 hp).1
  have hbl : ∀ p ∈ P, ∀ k, (blkOf p.np = some k ∨ blkOf p.bp = some k) → wr.heap[k]? = w.heap[k]? := fun p hp k hk => by
    obtain ⟨h1, h2, h3, h4, _⟩ := h0.apart p hp k hk
    exact h.fr.block k h1 (fun e => by rcases e with e | e; exact h3 e; exact h4 e)
  have hrows : ∀ b v, Kj b = some v → I64 b ∧ wr.ownsRow B 3 1 v (idsOf (kpP P zs) b).length ((idsOf (kpP P zs) b).map (Value.int .i64)) ∧ idsOf (kpP P zs) b ≠ [] := fun b v hv => by
    have := h.rows b v hv
    rw [hid b] at this
    exact this
  have hmemb : ∀ b, idsOf (kpP P zs) b ≠ [] → b ∈ (kpP P zs).map (fun p => (p.blk : Int)) := fun b hb => by
    obtain ⟨x, hx⟩ := List.exists_mem_of_ne_nil _ hb
    unfold idsOf at hx
    obtain ⟨p, hp, _⟩ := List.mem_map.1 hx
    obtain ⟨hp1, hp2⟩ := List.mem_filter.1 hp
    exact List.mem_map.2 ⟨p, hp1, of_decide_eq_true hp2⟩
  refine ⟨⟨h.row, h.pm, ?_, fun p hp => ⟨(h0.byt p (hsub p hp)).1.keptIf (fun g hg _ => hbl p (hsub p hp) g (.inr hg)), (h0.byt p (hsub p hp)).2⟩, fun p hp => ⟨(h0.nee p (hsub p hp)).1.keptIf (fun g hg _ => hbl p (hsub p hp) g (.inl hg)), (h0.nee p (hsub p hp)).2⟩, hrows, fun b hb hn => ?_, h.two, fun p hp k hk => ?_, fun p hp => h0.ids p (hsub p hp), h0.srt.filter _, fun p hp => h0.low p (hsub p hp), h0.sml, h0.base⟩, ?_, ?_⟩
  · have := h.bm.count ((kpP P zs).map (fun p => (p.blk : Int))) (fun b hb hn => by
      obtain ⟨v, hv⟩ := Option.ne_none_iff_exists'.1 hn
      exact hmemb b (hrows b v hv).2.2)
    rw [List.length_map] at this
    exact this
  · have := h.away b hb hn
    rw [hid b] at this
    exact this
  · obtain ⟨h1, h2, h3, h4, h5⟩ := h0.apart p (hsub p hp) k hk
    refine ⟨Nat.lt_of_lt_of_le h1 h.fr.size, h2, h3, h4, fun b v hv e => ?_⟩
    rcases h.new b v k hv e with h6 | h6
    · exact h5 b v h6 e
    · omega
  · exact h.fr.mono (fun k _ hk => by
      rcases hk with rfl | rfl
      · exact .inr (.inl rfl)
      · exact .inr (.inr (.inl rfl)))
  · rintro k (e | e | e | ⟨b, v, hv, hk⟩ | ⟨p, hp, hk⟩)
    · exact .inl (.inl e)
    · exact .inl (.inr (.inl e))
    · exact .inl (.inr (.inr (.inl e)))
    · rcases h.new b v k hv hk with h6 | h6
      · exact .inl (.inr (.inr (.inr (.inl ⟨b, v, h6, hk⟩))))
      · exact .inr h6
    · exact .inl (.inr (.inr (.inr (.inr ⟨p, hsub p hp, hk⟩))))

end Go.Proofs.YthdlpeejmmobmaaGreat.Pt

namespace Go.Proofs.YthdlpeejmmobmaaGreat.Pt
open Go.RowKit Go.Maps
set_option maxRecDepth 100000
set_option linter.unusedVariables false

theorem add_zero (nb : Nat) (p : Option Addr) (c : Nat) (w : World) : Calls Tryz.prog 281 #[.map (some nb), .slice p 0 c] w fun e w' => e = .returned (.tuple #[]) ∧ w' = w := by
  go_enter Tryz.func281, Tryz.ntmps281
  go_wp2_with fail
  go_loopw [8] (fun i wr => i = .int .i64 0 ∧ wr = w) (fun i _ => 0)
  case atStart => exact ⟨rfl, rfl⟩
  case round =>
    obtain ⟨rfl, rfl⟩ := hrel
    go_wp2
    go_end0
    exact ⟨rfl, rfl⟩
end Go.Proofs.YthdlpeejmmobmaaGreat.Pt

namespace Go.Proofs.YthdlpeejmmobmaaGreat.Pt
open Go.RowKit Go.Maps
set_option maxRecDepth 100000
set_option linter.unusedVariables false

/-- A patch has a byte's place. -/
def cvs1 (p : Pv) (i : Nat) : Prop := p.off ≤ i ∧ i < endP p

/-- Patches gone through, until nothing is bare. -/
def uppF (p : Pv) : List Pv → List Bool × Int → List Int → List Int
  | [], _, I => I
  | u :: l, s, I => if 0 < (upS p u s).2 then uppF p l (upS p u s) (upI p u s I) else upI p u s I
def cov0 : List Bool := List.replicate 128 false
def uppL (P : List Pv) (p : Pv) : List Int := uppF p (ofB P (p.blk : Int)).reverse (cov0, (p.bs.length : Int)) []

theorem cvs_len (s : List Bool × Int) (i : Nat) : (cvs s i).1.length = s.1.length := by unfold cvs; split <;> simp
theorem cvr_len (s : List Bool × Int) (lo : Nat) : ∀ k, (cvr s lo k).1.length = s.1.length
  | 0 => rfl
  | k + 1 => by rw [show cvr s lo (k + 1) = cvs (cvr s lo k) (lo + k) from rfl, cvs_len, cvr_len s lo k]
theorem cvs_at (s : List Bool × Int) (i j : Nat) (hj : j < s.1.length) : (cvs s i).1.getD j true = true ↔ s.1.getD j true = true ∨ j = i := by
  unfold cvs
  by_cases h : s.1.getD i true = true
  · rw [if_pos h]
    constructor
    · exact .inl
    · rintro (h1 | rfl)
      · exact h1
      · exact h
  · rw [if_neg h]
    by_cases e : j = i
    · subst e
      simp [List.getD_eq_getElem?_getD, hj]
    · simp [List.getD_eq_getElem?_getD, e, Ne.symm e]
theorem cvr_at (s : List Bool × Int) (lo : Nat) (j : Nat) (hj : j < s.1.length) : ∀ k, (cvr s lo k).1.getD j true = true ↔ s.1.getD j true = true ∨ (lo ≤ j ∧ j < lo + k)
  | 0 => by
    rw [show cvr s lo 0 = s from rfl]
    constructor
    · exact .inl
    · rintro (h | h)
      · exact h
      · omega
  | k + 1 => by
    rw [show cvr s lo (k + 1) = cvs (cvr s lo k) (lo + k) from rfl, cvs_at _ _ _ (by rw [cvr_len]; exact hj), cvr_at s lo j hj k]
    constructor
    · rintro ((h | h) | h)
      · exact .inl h
      · exact .inr (by omega)
      · exact .inr (by omega)
    · rintro (h | h)
      · exact .inl (.inl h)
      · by_cases e : j = lo + k
        · exact .inr e
        · exact .inl (.inr (by omega))
theorem cvs_cnt (s : List Bool × Int) (i : Nat) : (cvs s i).2 + (trs (cvs s i).1 : Int) = s.2 + (trs s.1 : Int) := by
  unfold cvs
  by_cases h : s.1.getD i true = true
  · rw [if_pos h]
  · rw [if_neg h]
    have := trs_set s.1 i (by simpa using h)
    simp only [this]
    omega
theorem cvr_cnt (s : List Bool × Int) (lo : Nat) : ∀ k, (cvr s lo k).2 + (trs (cvr s lo k).1 : Int) = s.2 + (trs s.1 : Int)
  | 0 => rfl
  | k + 1 => by rw [show cvr s lo (k + 1) = cvs (cvr s lo k) (lo + k) from rfl, cvs_cnt, cvr_cnt s lo k]
theorem cvs_le (s : List Bool × Int) (i : Nat) : (cvs s i).2 ≤ s.2 := by unfold cvs; split <;> simp <;> omega
theorem cvr_le (s : List Bool × Int) (lo : Nat) : ∀ k, (cvr s lo k).2 ≤ s.2
  | 0 => Int.le_refl _
  | k + 1 => Int.le_trans (cvs_le _ _) (cvr_le s lo k)
/-- Where a place was bare, one less is. -/
theorem cvr_lt (s : List Bool × Int) (lo j : Nat) (hj : j < s.1.length) (hb : s.1.getD j true = false) : ∀ k, lo ≤ j → j < lo + k → (cvr s lo k).2 < s.2
  | 0, h1, h2 => by omega
  | k + 1, h1, h2 => by
    rw [show cvr s lo (k + 1) = cvs (cvr s lo k) (lo + k) from rfl]
    by_cases e : j < lo + k
    · exact Int.lt_of_le_of_lt (cvs_le _ _) (cvr_lt s lo j hj hb k h1 e)
    · obtain rfl : j = lo + k := by omega
      have hn : (cvr s lo k).1.getD (lo + k) true = false := by
        rw [← Bool.not_eq_true, cvr_at s lo (lo + k) hj k]
        rintro (h | h)
        · rw [hb] at h; cases h
        · omega
      have := cvr_le s lo k
      unfold cvs
      rw [hn]
      simp
      omega

theorem trs_win : ∀ (l : List Bool) (lo k : Nat), (∀ i, l[i]? = some true → lo ≤ i ∧ i < lo + k) → trs l ≤ k
  | [], _, k, _ => Nat.zero_le k
  | b :: l, 0, 0, h => by
    cases b with
    | true => have := h 0 rfl; omega
    | false =>
      have := trs_win l 0 0 (fun i hi => by have := h (i + 1) (by simpa using hi); omega)
      simp [trs]; omega
  | b :: l, 0, k + 1, h => by
    have := trs_win l 0 k (fun i hi => by have := h (i + 1) (by simpa using hi); omega)
    cases b <;> simp [trs] <;> omega
  | b :: l, lo + 1, k, h => by
    have := trs_win l lo k (fun i hi => by have := h (i + 1) (by simpa using hi); omega)
    cases b with
    | true => have := h 0 rfl; omega
    | false => simp [trs]; omega
/-- Where as many are covered as there are places, all are. -/
theorem trs_full {l : List Bool} {lo k : Nat} (h : ∀ i, l[i]? = some true → lo ≤ i ∧ i < lo + k) (hk : k ≤ trs l) {j : Nat} (hj : lo ≤ j ∧ j < lo + k) (hl : j < l.length) : l.getD j true = true := by
  by_cases e : l.getD j true = true
  · exact e
  · exfalso
    have h1 := trs_set l j (by simpa using e)
    have h2 := trs_win (l.set j true) lo k (fun i hi => by
      by_cases e2 : i = j
      · subst e2; exact hj
      · rw [List.getElem?_set_ne (Ne.symm e2)] at hi; exact h i hi)
    omega

theorem lo_k (p u : Pv) (i : Nat) : (loP p u ≤ i ∧ i < loP p u + kP p u) ↔ cvs1 p i ∧ cvs1 u i := by
  unfold cvs1 loP kP loP
  omega

/-- What is known behind some patches. -/
structure UInv (p : Pv) (V : List Pv) (s : List Bool × Int) (I : List Int) : Prop where
  len : s.1.length = 128
  cnt : s.2 + (trs s.1 : Int) = (p.bs.length : Int)
  cov : ∀ i, i < 128 → (s.1.getD i true = true ↔ cvs1 p i ∧ ∃ u ∈ V, cvs1 u i)
  mem : ∀ x ∈ I, ∃ u ∈ V, (u.id : Int) = x ∧ ∃ i, cvs1 p i ∧ cvs1 u i
  top : ∀ i, cvs1 p i → ∀ q ∈ V, cvs1 q i → ∃ u ∈ V, (u.id : Int) ∈ I ∧ cvs1 u i ∧ q.id ≤ u.id

theorem trs_rep : ∀ n, trs (List.replicate n false) = 0
  | 0 => rfl
  | n + 1 => by rw [List.replicate_succ]; simp [trs, trs_rep n]
theorem uinv_nil (p : Pv) (h : p.off + p.bs.length ≤ 128) : UInv p [] (cov0, (p.bs.length : Int)) [] := by
  have h0 : trs cov0 = 0 := trs_rep 128
  have h1 : ∀ i, i < 128 → cov0.getD i true = false := fun i hi => by
    unfold cov0
    rw [List.getD_eq_getElem?_getD, List.getElem?_replicate, if_pos hi]
    rfl
  have h2 : cov0.length = 128 := List.length_replicate
  generalize cov0 = c0 at *
  refine ⟨h2, by simp only [h0]; omega, fun i hi => ?_, (fun x hx => by cases hx), (fun i _ q hq => by cases hq)⟩
  constructor
  · intro h'
    have := h1 i hi
    simp only at h'
    rw [this] at h'
    cases h'
  · rintro ⟨_, u, hu, _⟩
    cases hu

theorem UInv.step {p : Pv} {V : List Pv} {s : List Bool × Int} {I : List Int} (h : UInv p V s I) (hp : p.off + p.bs.length ≤ 128) (u : Pv) (hu : ∀ q ∈ V, u.id < q.id) : UInv p (V ++ [u]) (upS p u s) (upI p u s I) := by
  have hat : ∀ i, i < 128 → ((upS p u s).1.getD i true = true ↔ s.1.getD i true = true ∨ (cvs1 p i ∧ cvs1 u i)) := fun i hi => by
    unfold upS
    rw [cvr_at s _ i (by rw [h.len]; exact hi), lo_k]
  have hlt : ∀ i, i < 128 → cvs1 p i → cvs1 u i → s.1.getD i true = false → (upS p u s).2 < s.2 := fun i hi h1 h2 hb => by
    have := (lo_k p u i).2 ⟨h1, h2⟩
    exact cvr_lt s _ i (by rw [h.len]; exact hi) hb _ this.1 this.2
  have hmono : ∀ x ∈ I, x ∈ upI p u s I := fun x hx => by
    unfold upI
    split
    · exact List.mem_append_left _ hx
    · exact hx
  refine ⟨by unfold upS; rw [cvr_len]; exact h.len, by unfold upS; rw [cvr_cnt]; exact h.cnt, fun i hi => ?_, fun x hx => ?_, fun i hpi q hq hqi => ?_⟩
  · rw [hat i hi, h.cov i hi]
    constructor
    · rintro (⟨h1, v, hv, h2⟩ | ⟨h1, h2⟩)
      · exact ⟨h1, v, List.mem_append_left _ hv, h2⟩
      · exact ⟨h1, u, by simp, h2⟩
    · rintro ⟨h1, v, hv, h2⟩
      rcases List.mem_append.1 hv with hv | hv
      · exact .inl ⟨h1, v, hv, h2⟩
      · simp only [List.mem_singleton] at hv
        subst hv
        exact .inr ⟨h1, h2⟩
  · unfold upI at hx
    split at hx
    · rename_i hl
      rcases List.mem_append.1 hx with hx | hx
      · obtain ⟨v, hv, e⟩ := h.mem x hx
        exact ⟨v, List.mem_append_left _ hv, e⟩
      · simp only [List.mem_singleton] at hx
        refine ⟨u, by simp, hx.symm, ?_⟩
        unfold upS at hl
        cases hk : kP p u with
        | zero => rw [hk] at hl; exact absurd hl (by simp [cvr])
        | succ k => exact ⟨loP p u, (lo_k p u _).1 ⟨Nat.le_refl _, by omega⟩⟩
    · obtain ⟨v, hv, e⟩ := h.mem x hx
      exact ⟨v, List.mem_append_left _ hv, e⟩
  · have hi : i < 128 := by have := hpi.2; unfold endP at this; omega
    rcases List.mem_append.1 hq with hq | hq
    · obtain ⟨v, hv, h1, h2, h3⟩ := h.top i hpi q hq hqi
      exact ⟨v, List.mem_append_left _ hv, hmono _ h1, h2, h3⟩
    · simp only [List.mem_singleton] at hq
      subst hq
      cases hb : s.1.getD i true with
      | true =>
        obtain ⟨_, v, hv, hvi⟩ := (h.cov i hi).1 hb
        obtain ⟨v2, hv2, h1, h2, h3⟩ := h.top i hpi v hv hvi
        exact ⟨v2, List.mem_append_left _ hv2, hmono _ h1, h2, by have := hu v hv; omega⟩
      | false =>
        refine ⟨q, by simp, ?_, hqi, Nat.le_refl _⟩
        unfold upI
        rw [if_pos (hlt i hi hpi hqi hb)]
        simp

theorem uppF_ok {p : Pv} (hp : p.off + p.bs.length ≤ 128) : ∀ (l V : List Pv) (s : List Bool × Int) (I : List Int), UInv p V s I → (V ++ l).Pairwise (fun a b => b.id < a.id) →
    (∀ x ∈ uppF p l s I, ∃ u ∈ V ++ l, (u.id : Int) = x ∧ ∃ i, cvs1 p i ∧ cvs1 u i) ∧
    (∀ i, cvs1 p i → ∀ q ∈ V ++ l, cvs1 q i → ∃ u ∈ V ++ l, (u.id : Int) ∈ uppF p l s I ∧ cvs1 u i ∧ q.id ≤ u.id)
  | [], V, s, I, h, hs => by
    rw [List.append_nil]
    exact ⟨h.mem, h.top⟩
  | u :: l, V, s, I, h, hs => by
    have hu : ∀ q ∈ V, u.id < q.id := fun q hq => (List.pairwise_append.1 hs).2.2 q hq u (by simp)
    have h' := h.step hp u hu
    have e : V ++ u :: l = V ++ [u] ++ l := by simp
    rw [e] at hs ⊢
    unfold uppF
    split
    · exact uppF_ok hp l _ _ _ h' hs
    · rename_i hz
      refine ⟨fun x hx => ?_, fun i hpi q hq hqi => ?_⟩
      · obtain ⟨v, hv, r⟩ := h'.mem x hx
        exact ⟨v, List.mem_append_left _ hv, r⟩
      · have hi : i < 128 := by have := hpi.2; unfold endP at this; omega
        have hfull : (upS p u s).1.getD i true = true := by
          refine trs_full (lo := p.off) (k := p.bs.length) (fun j hj => ?_) (by have := h'.cnt; omega) (j := i) (by have := hpi.1; have := hpi.2; unfold endP at *; omega) (by rw [h'.len]; exact hi)
          have hjl : j < 128 := by have := (List.getElem?_eq_some_iff.1 hj).1; rw [h'.len] at this; exact this
          have := (h'.cov j hjl).1 (by rw [List.getD_eq_getElem?_getD, hj]; rfl)
          have h1 := this.1
          unfold cvs1 endP at h1
          omega
        obtain ⟨_, v, hv, hvi⟩ := (h'.cov i hi).1 hfull
        rcases List.mem_append.1 hq with hq | hq
        · obtain ⟨v2, hv2, r⟩ := h'.top i hpi q hq hqi
          exact ⟨v2, List.mem_append_left _ hv2, r⟩
        · obtain ⟨v2, hv2, h1, h2, h3⟩ := h'.top i hpi v hv hvi
          have := (List.pairwise_append.1 hs).2.2 v hv q hq
          exact ⟨v2, List.mem_append_left _ hv2, h1, h2, by omega⟩

theorem mem_ofB {P : List Pv} {b : Int} {p : Pv} : p ∈ ofB P b ↔ p ∈ P ∧ (p.blk : Int) = b := by
  unfold ofB; rw [List.mem_filter, decide_eq_true_iff]

theorem uppL_ok {P : List Pv} (hs : P.Pairwise (fun p q => p.id < q.id)) {p : Pv} (hp : p.off + p.bs.length ≤ 128) :
    (∀ x ∈ uppL P p, ∃ u ∈ ofB P (p.blk : Int), (u.id : Int) = x ∧ ∃ i, cvs1 p i ∧ cvs1 u i) ∧
    (∀ i, cvs1 p i → ∀ q ∈ ofB P (p.blk : Int), cvs1 q i → ∃ u ∈ ofB P (p.blk : Int), (u.id : Int) ∈ uppL P p ∧ cvs1 u i ∧ q.id ≤ u.id) := by
  have := uppF_ok hp (ofB P (p.blk : Int)).reverse [] _ _ (uinv_nil p hp) (by rw [List.nil_append, List.pairwise_reverse]; exact List.Pairwise.filter _ hs)
  simpa [uppL] using this

theorem upI_len (p u : Pv) (s : List Bool × Int) (I : List Int) : (upI p u s I).length ≤ I.length + 1 := by unfold upI; split <;> simp
theorem uppF_len (p : Pv) : ∀ (l : List Pv) (s : List Bool × Int) (I : List Int), (uppF p l s I).length ≤ I.length + l.length
  | [], _, _ => by simp [uppF]
  | u :: l, s, I => by
    have h1 := upI_len p u s I
    unfold uppF
    split
    · have := uppF_len p l (upS p u s) (upI p u s I)
      simp; omega
    · simp; omega
theorem uppL_len (P : List Pv) (p : Pv) : (uppL P p).length ≤ P.length := by
  have h1 := uppF_len p (ofB P (p.blk : Int)).reverse (cov0, (p.bs.length : Int)) []
  have h2 : (ofB P (p.blk : Int)).length ≤ P.length := List.length_filter_le _ _
  unfold uppL
  simp at h1
  omega
end Go.Proofs.YthdlpeejmmobmaaGreat.Pt
