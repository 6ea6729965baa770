/- Plan. -/
import Derived.Test.YteapkfnklbhdfaaPlan1
namespace Go.Proofs.Yteapkfnklbhdfaa
open Go.RowKit Go.Maps
set_option linter.unusedVariables false

/-- A block's patches. -/
def ofB (P : List Pv) (b : Int) : List Pv := P.filter (fun p => decide ((p.blk : Int) = b))
theorem idsOf_eq (P : List Pv) (b : Int) : idsOf P b = (ofB P b).map (fun p => (p.id : Int)) := rfl

/-- What is chosen and laid, patch by patch. -/
def pst (P : List Pv) : List Pv → List Int × List Int → List Int × List Int
  | [], s => s
  | p :: l, s => pst P l (nextC P s.1 p, nextO P s.1 s.2 p)
theorem pst_snoc (P : List Pv) : ∀ (l : List Pv) (p : Pv) (s : List Int × List Int), pst P (l ++ [p]) s = (nextC P (pst P l s).1 p, nextO P (pst P l s).1 (pst P l s).2 p)
  | [], p, s => rfl
  | q :: l, p, s => by rw [List.cons_append]; exact pst_snoc P l p _
theorem pst_len (P : List Pv) : ∀ (l : List Pv) (s : List Int × List Int), (pst P l s).1.length ≤ s.1.length + l.length
  | [], s => Nat.le_refl _
  | p :: l, s => by
    have := pst_len P l (nextC P s.1 p, nextO P s.1 s.2 p)
    have h2 : (nextC P s.1 p).length ≤ s.1.length + 1 := by unfold nextC; split <;> simp
    show (pst P l _).1.length ≤ _
    simp only [List.length_cons] at *
    omega

theorem fP_mem {P : List Pv} (hs : P.Pairwise (fun p q => p.id < q.id)) {p : Pv} (hp : p ∈ P) : fP P (p.id : Int) = some p := by
  induction P with
  | nil => cases hp
  | cons q P ih =>
    unfold fP at *
    rw [List.find?_cons]
    rcases List.mem_cons.1 hp with rfl | h
    · simp
    · have := (List.pairwise_cons.1 hs).1 p h
      have hne : decide ((q.id : Int) = (p.id : Int)) = false := decide_eq_false (by omega)
      rw [hne]
      exact ih (List.pairwise_cons.1 hs).2 h
theorem fP_some {P : List Pv} {k : Int} {p : Pv} (h : fP P k = some p) : p ∈ P ∧ (p.id : Int) = k := by
  unfold fP at h
  exact ⟨List.mem_of_find?_eq_some h, by simpa using List.find?_some h⟩

theorem len_ids : ∀ {P : List Pv} {m last : Nat}, P.Pairwise (fun p q => p.id < q.id) → (∀ p ∈ P, m < p.id ∧ p.id ≤ last) → P.length ≤ last - m
  | [], _, _, _, _ => Nat.zero_le _
  | p :: P, m, last, hs, h => by
    have h1 := h p (List.mem_cons.2 (.inl rfl))
    have := len_ids (P := P) (m := p.id) (last := last) (List.pairwise_cons.1 hs).2 (fun q hq => ⟨(List.pairwise_cons.1 hs).1 q hq, (h q (List.mem_cons.2 (.inr hq))).2⟩)
    simp only [List.length_cons]
    omega
theorem PS.len {B : Nat} {w : World} {a mp mb last : Nat} {P : List Pv} {K : Int → Option Value} (h : PS B w a mp mb last P K) : P.length ≤ last := by
  have := len_ids (m := 0) (last := last) h.srt (fun p hp => by have := h.ids p hp; omega)
  omega

theorem PS.row_ii {B : Nat} {w : World} {a mp mb last : Nat} {P : List Pv} {K : Int → Option Value} (h : PS B w a mp mb last P K) (b : Int) (hb : I64 b) : ∃ p c, (K b).getD (.slice none 0 0) = .slice p (idsOf P b).length c ∧ II w p (idsOf P b).length (idsOf P b) ∧ Plain p := by
  have hf : ∀ x ∈ idsOf P b, I64 x := by
    intro x hx
    rw [idsOf_eq] at hx
    obtain ⟨p, hp, rfl⟩ := List.mem_map.1 hx
    have := h.ids p (List.mem_filter.1 hp).1
    have := h.sml
    exact ⟨by omega, by omega⟩
  have hlen : (idsOf P b).length ≤ 1000 := by
    have h1 := h.len
    have h2 := h.sml
    have h3 : (ofB P b).length ≤ P.length := List.length_filter_le _ _
    rw [idsOf_eq, List.length_map]
    omega
  cases e : K b with
  | none =>
    rw [h.away b hb e]
    exact ⟨none, 0, rfl, ⟨rfl, by simp, fun x hx => (by cases hx), fun h => (by simp at h)⟩, .inl rfl⟩
  | some v =>
    obtain ⟨_, hr, _⟩ := h.rows b v e
    exact Nums.ii hr (by omega) hf

/-- The numbers from 1 to last. -/
def upto (last : Nat) : List Int := (List.range (last + 1)).map (fun i : Nat => (i : Int))
theorem mem_upto {last : Nat} {k : Int} (h : 1 ≤ k ∧ k ≤ (last : Int)) : k ∈ upto last := by
  refine List.mem_map.2 ⟨k.toNat, List.mem_range.2 (by omega), by omega⟩
theorem upto_len (last : Nat) : (upto last).length = last + 1 := by simp [upto]

theorem getD_map_ids (l : List Pv) (j : Nat) (h : j < l.length) : (l.map (fun p => (p.id : Int))).getD j 0 = (l[j].id : Int) := by
  rw [List.getD_eq_getElem?_getD, List.getElem?_map, List.getElem?_eq_getElem h]; rfl

set_option maxRecDepth 100000 in
set_option maxHeartbeats 2000000 in
theorem each55_ok {B T : Nat} {w0 w : World} {a mp mb last : Nat} {P : List Pv} {K : Int → Option Value} {gs gc go gi nb ob cap : Nat} {iv : Value} {out : List Int} (h : PI B T w0 w a mp mb last P K gs gc go gi nb ob cap iv (upto last) [] [] out) (b : Int) (hb : I64 b) :
    Calls Try.prog 51 #[.pointer (some ⟨a, 0, none⟩), .int .i64 b, .func (.func 55) #[] #[.pointer (some ⟨gs, 0, none⟩), .pointer (some ⟨gc, 0, none⟩), .pointer (some ⟨go, 0, none⟩), .pointer (some ⟨gi, 0, none⟩)]] w
      fun e w' => e = .returned (.tuple #[]) ∧ ∃ iv', PI B T w0 w' a mp mb last P K gs gc go gi nb ob cap iv' (upto last) (pst P (ofB P b) ([], out)).1 (pst P (ofB P b) ([], out)).1 (pst P (ofB P b) ([], out)).2 := by
  have hps := h.psn
  have c2 := hps.c2
  have hl := hps.list b hb
  obtain ⟨q, c, e, hii, hpl⟩ := h.ps.row_ii b hb
  rw [e] at hl
  have hsml := hps.sml
  have hlen : (idsOf P b).length ≤ 1000 := by
    have h1 := hps.len
    have h3 : (ofB P b).length ≤ P.length := List.length_filter_le _ _
    rw [idsOf_eq, List.length_map]
    omega
  obtain ⟨L, hL⟩ : ∃ L, L = ofB P b := ⟨_, rfl⟩
  have hn : (idsOf P b).length = L.length := by rw [hL, idsOf_eq, List.length_map]
  have hmem : ∀ p ∈ L, p ∈ P := fun p hp => by rw [hL] at hp; exact (List.mem_filter.1 hp).1
  rw [idsOf_eq, ← hL] at hii
  rw [hn] at hl hlen
  rw [List.length_map] at hii
  rw [← hL]
  obtain ⟨n, hnL⟩ : ∃ n, n = L.length := ⟨_, rfl⟩
  rw [← hnL] at hl hlen hii
  have HNL : Hid _ := hnL
  clear e hn hnL hL
  go_enter Try.func51, Try.ntmps51
  go_wp2_with fail
  go_loopw [15] (fun i wr => ∃ (j : Nat) (iv' : Value), j ≤ n ∧ i = .int .i64 (j : Int) ∧ PI B T w0 wr a mp mb last P K gs gc go gi nb ob cap iv' (upto last) (pst P (L.take j) ([], out)).1 (pst P (L.take j) ([], out)).1 (pst P (L.take j) ([], out)).2) (fun i _ => n - (intOf i).toNat)
  case atStart => exact ⟨0, iv, by omega, rfl, h⟩
  case round =>
    clear h hps c2 hl
    obtain ⟨j, iv2, hj, rfl, hI⟩ := hrel
    have hps := hI.psn
    by_cases hlt : j < n
    · have hjL : j < L.length := by rw [← HNL.out]; exact hlt
      have hbw : Below w0.heap.size w0 wr := by rw [hI.sz]; exact hI.bel
      obtain ⟨b1, o1, rfl, hc1⟩ := (hii.kept hbw).cells (by omega)
      have e1 := hc1 j hlt
      rw [getD_map_ids L j hjL] at e1
      obtain ⟨p, hp⟩ : ∃ p, p = L[j] := ⟨_, rfl⟩
      rw [← hp] at e1
      have hpP : p ∈ P := hmem p (by rw [hp]; exact List.getElem_mem hjL)
      have hid := hps.ids p hpP
      have c1 := hps.c1
      have hg := hps.get (p.id : Int) ⟨by omega, by omega⟩
      rw [fP_mem hps.srt hpP] at hg
      have hg' : (Instr.lookup 67 (.map (some mp)) (.int .i64 (p.id : Int)) false).run Try.prog wr = .ok p.v wr := hg
      have hpl := pst_len P (L.take j) ([], out)
      have htl : (L.take j).length ≤ 1000 := by rw [List.length_take]; omega
      have hplan := plan1_ok hI p hpP (by rw [upto_len]; omega) (mem_upto ⟨by omega, by omega⟩) (by simp only [List.length_nil] at hpl; omega)
      have HT : Hid (L.take (j + 1) = L.take j ++ [p]) := by show _ = _; rw [List.take_add_one, List.getElem?_eq_getElem hjL, hp]; rfl
      have hjI : (j : Int) < (n : Int) := by omega
      have hj0 : (0 : Int) ≤ (j : Int) := by omega
      clear hc1 hg hp hps hI hpl htl hid hii hbw
      generalize p.v = pv at *
      go_wp2_with (first | (go_at_call 55; refine hplan.mono ?_; rintro e w2 ⟨rfl, iv3, hI3⟩))
      go_roundw
      case rel =>
        refine ⟨j + 1, iv3, by omega, by go_num, ?_⟩
        rw [HT.out, pst_snoc]
        exact hI3
      case measure => simp [intOf]; omega
    · obtain rfl : j = n := by omega
      rw [List.take_of_length_le (by rw [← HNL.out]; exact Nat.le_refl _)] at hI
      go_wp2
      go_end0
      exact ⟨rfl, iv2, hI⟩
end Go.Proofs.Yteapkfnklbhdfaa
