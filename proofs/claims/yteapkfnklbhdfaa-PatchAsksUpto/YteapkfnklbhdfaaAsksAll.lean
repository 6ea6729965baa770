/- PatchAsks holds, of what is read of bulk at most 1048576: for every list of calls, every block, number, bytes and numbers the call returns true, and the arguments read as they read before. -/
import Derived.Test.YteapkfnklbhdfaaRel3
import Derived.Test.YteapkfnklbhdfaaLaw
import Derived.Laws.Externs
import Derived.Lib.MakeNoZero
import Derived.Test.YteapkfnklbhdfaaPOpen
import Derived.JoinedCond
import Derived.Deep.CondSized

/- What the laws ask besides: bytes spoiled, two patches held against each other, bytes.Clone. -/
namespace Go.Proofs.Yteapkfnklbhdfaa
open Go.RowKit Go.Maps
set_option linter.unusedVariables false

set_option maxRecDepth 100000 in
set_option maxHeartbeats 1000000 in
/-- Bytes of a row that the call made are spoiled: nothing else has turned. -/
theorem spoil_ok (p : Option Addr) (n c : Nat) (xs : List Int) (w : World) (h : BI w p n xs) (hfr : ∀ g, 0 < n → blkOf p = some g → ∃ cs, w.heap[g]? = some (.cells cs 5 (0, 0))) :
    Calls Try.prog 43 #[.slice p n c] w fun e w' => e = .returned (.tuple #[]) ∧ Frame (fun k => blkOf p = some k) w w' := by
  have hl := h.len
  have hb := h.big
  rcases Nat.eq_zero_or_pos n with h0 | h0
  · subst h0
    clear h hfr
    go_enter Try.func43, Try.ntmps43
    go_wp2_with fail
    go_loopw [5] (fun i wr => i = .int .i64 0 ∧ wr = w) (fun i _ => 0)
    case atStart => exact ⟨rfl, rfl⟩
    case round =>
      obtain ⟨rfl, rfl⟩ := hrel
      go_wp2
      go_end0
      exact ⟨rfl, Frame.refl _ _⟩
  · obtain ⟨b, o, rfl, hc⟩ := h.cells h0
    obtain ⟨cs0, hcs0⟩ := hfr b h0 rfl
    have hin : ∀ i, i < n → ∃ y, cs0[o + i]? = some (.int .u8 y) := fun i hi => by
      have := hc i hi
      rw [cell_of_row _ _ (o + i) _ 5 _ hcs0] at this
      exact ⟨_, this⟩
    clear h hc hfr
    go_enter Try.func43, Try.ntmps43
    go_wp2_with fail
    go_loopw [5] (fun i wr => ∃ (j : Nat) (cs : Array Value), j ≤ n ∧ i = .int .i64 (j : Int) ∧ wr.heap[b]? = some (.cells cs 5 (0, 0)) ∧ (∀ i, i < n → ∃ y, cs[o + i]? = some (.int .u8 y)) ∧ Frame (fun k => blkOf (some ⟨b, o, none⟩) = some k) w wr) (fun i _ => n - (intOf i).toNat)
    case atStart => exact ⟨0, cs0, by omega, rfl, hcs0, hin, Frame.refl _ _⟩
    case round =>
      clear hcs0 hin
      obtain ⟨j, cs, hj, rfl, hcs, hin, hF⟩ := hrel
      by_cases hlt : j < n
      · obtain ⟨y, hy⟩ := hin j hlt
        have e1 : wr.cell? ⟨b, o + j, none⟩ = some (.int .u8 y) := by rw [cell_of_row _ _ (o + j) _ 5 _ hcs]; exact hy
        have f1 : wr.frozen? ⟨b, o + j, none⟩ = false := by simp [World.frozen?, hcs]
        have hjI : (j : Int) < (n : Int) := by omega
        have hj0 : (0 : Int) ≤ (j : Int) := by omega
        have HE : Hid (∀ v, (wr.setCell ⟨b, o + j, none⟩ (.int .u8 v)).heap[b]? = some (.cells (cs.setIfInBounds (o + j) (.int .u8 v)) 5 (0, 0)) ∧ (∀ i, i < n → ∃ y, (cs.setIfInBounds (o + j) (.int .u8 v))[o + i]? = some (.int .u8 y)) ∧ Frame (fun k => blkOf (some ⟨b, o, none⟩) = some k) w (wr.setCell ⟨b, o + j, none⟩ (.int .u8 v))) := fun v => by
          refine ⟨by rw [heap_setCell_same _ _ _ _ _ _ hcs], fun i hi => ?_, hF.trans (Frame.setCell wr (p := ⟨b, o + j, none⟩) _ rfl)⟩
          obtain ⟨z, hz⟩ := hin i hi
          by_cases e : j = i
          · subst e
            refine ⟨v, ?_⟩
            rw [Array.getElem?_setIfInBounds_self_of_lt (Array.getElem?_eq_some_iff.1 hz).1]
          · exact ⟨z, by rw [Array.getElem?_setIfInBounds_ne (by omega)]; exact hz⟩
        clear hcs hin hF hy
        go_wp2_with fail
        go_roundw
        case rel =>
          obtain ⟨a1, a2, a3⟩ := HE.out _
          exact ⟨j + 1, _, by omega, by go_num, a1, a2, a3⟩
        case measure => simp [intOf]; omega
      · have hnt : ¬ (j : Int) < (n : Int) := by omega
        go_wp2_with fail
        go_end0
        exact ⟨rfl, hF⟩

theorem bclone0_ok (p : Option Addr) (n c : Nat) (xs : List Int) (w : World) (h : BI w p n xs) :
    Calls Try.prog 38 #[.slice p n c] w fun e w' => ∃ q m d, e = .returned (.slice q m d) ∧ BI w' q m xs ∧ (∀ g, blkOf q = some g → w.heap.size ≤ g ∧ ∃ cs, w'.heap[g]? = some (.cells cs 5 (0, 0))) ∧ Below w.heap.size w w' := by
  cases p with
  | none =>
    have hn : n = 0 := by
      rcases Nat.eq_zero_or_pos n with h0 | h0
      · exact h0
      · obtain ⟨b, o, e, _⟩ := h.cells h0; cases e
    subst hn
    refine (sh_bytes_Clone_nil 0 c w).mono ?_
    rintro e w' ⟨rfl, rfl⟩
    exact ⟨none, 0, 0, rfl, h, (fun g hg => by cases hg), Below.refl _ _⟩
  | some a =>
    have hc : ∀ i, i < n → w.cell? (a.add i) = some (.int .u8 (xs.getD i 0)) := fun i hi => by
      obtain ⟨b, o, e, hc⟩ := h.cells (by omega)
      injection e with e
      subst e
      rw [Addr.add_mid]
      exact hc i hi
    refine (sh_bytes_Clone_at a n c xs w h.len h.big hc).mono ?_
    rintro e w' ⟨v, rfl, hown, hne, hb⟩
    obtain ⟨g, cap, rfl, ho⟩ := own_shape hown hne
    refine ⟨some ⟨g, 0, none⟩, n, cap, rfl, ho.bi h.big h.byt, fun g' hg' => ?_, hb⟩
    have e : g = g' := Option.some.inj hg'
    subst e
    exact ⟨ho.spot.1, own_row5 ho⟩
end Go.Proofs.Yteapkfnklbhdfaa

/- Two patches held against each other; the set of which both are told. -/
namespace Go.Proofs.Yteapkfnklbhdfaa
open Go.RowKit Go.Maps
set_option linter.unusedVariables false

set_option maxRecDepth 100000 in
set_option maxHeartbeats 2000000 in
theorem samePatch_ok (i b o : Int) (p1 p2 q1 q2 : Option Addr) (n1 n2 m1 m2 c1 c2 d1 d2 : Nat) (xs zs : List Int) (w : World) (h1 : BI w p1 n1 xs) (h2 : BI w p2 n2 xs) (h3 : II w q1 m1 zs) (h4 : II w q2 m2 zs) :
    Calls Try.prog 24 #[.agg #[.int .i64 i, .int .i64 b, .int .i64 o, .slice p1 n1 c1, .slice q1 m1 d1], .agg #[.int .i64 i, .int .i64 b, .int .i64 o, .slice p2 n2 c2, .slice q2 m2 d2]] w fun e w' => e = .returned (.bool true) ∧ Below w.heap.size w w' := by
  obtain ⟨W, hW⟩ : ∃ W, (w.alloc (.cells #[.int .i64 i, .int .i64 b, .int .i64 o, .slice p1 n1 c1, .slice q1 m1 d1] 44)).alloc (.cells #[.int .i64 i, .int .i64 b, .int .i64 o, .slice p2 n2 c2, .slice q2 m2 d2] 44) = W := ⟨_, rfl⟩
  have hbW : Below w.heap.size w W := by rw [← hW]; exact ((Below.refl _ _).alloc (Nat.le_refl _) _).alloc (by simp) _
  have hbe := beq_ok (c := c1) (d := c2) (h1.kept hbW) (h2.kept hbW)
  have hie := ieq_ok (c := d1) (d := d2) (h3.kept hbW) (h4.kept hbW)
  rw [beq_self_eq_true] at hbe hie
  clear h1 h2 h3 h4
  have r1 : W.heap[w.heap.size]? = some (.cells #[.int .i64 i, .int .i64 b, .int .i64 o, .slice p1 n1 c1, .slice q1 m1 d1] 44 (0, 0)) := by rw [← hW]; exact at_old (at_new rfl)
  have r2 : W.heap[w.heap.size + 1]? = some (.cells #[.int .i64 i, .int .i64 b, .int .i64 o, .slice p2 n2 c2, .slice q2 m2 d2] 44 (0, 0)) := by rw [← hW]; exact at_new (by simp)
  have a0 : W.cell? ⟨w.heap.size, 0, none⟩ = some (.int .i64 i) := by rw [cell_of_row _ _ 0 _ 44 _ r1]; rfl
  have a1 : W.cell? ⟨w.heap.size, 1, none⟩ = some (.int .i64 b) := by rw [cell_of_row _ _ 1 _ 44 _ r1]; rfl
  have a2 : W.cell? ⟨w.heap.size, 2, none⟩ = some (.int .i64 o) := by rw [cell_of_row _ _ 2 _ 44 _ r1]; rfl
  have a3 : W.cell? ⟨w.heap.size, 3, none⟩ = some (.slice p1 n1 c1) := by rw [cell_of_row _ _ 3 _ 44 _ r1]; rfl
  have a4 : W.cell? ⟨w.heap.size, 4, none⟩ = some (.slice q1 m1 d1) := by rw [cell_of_row _ _ 4 _ 44 _ r1]; rfl
  have b0 : W.cell? ⟨w.heap.size + 1, 0, none⟩ = some (.int .i64 i) := by rw [cell_of_row _ _ 0 _ 44 _ r2]; rfl
  have b1 : W.cell? ⟨w.heap.size + 1, 1, none⟩ = some (.int .i64 b) := by rw [cell_of_row _ _ 1 _ 44 _ r2]; rfl
  have b2 : W.cell? ⟨w.heap.size + 1, 2, none⟩ = some (.int .i64 o) := by rw [cell_of_row _ _ 2 _ 44 _ r2]; rfl
  have b3 : W.cell? ⟨w.heap.size + 1, 3, none⟩ = some (.slice p2 n2 c2) := by rw [cell_of_row _ _ 3 _ 44 _ r2]; rfl
  have b4 : W.cell? ⟨w.heap.size + 1, 4, none⟩ = some (.slice q2 m2 d2) := by rw [cell_of_row _ _ 4 _ 44 _ r2]; rfl
  clear r1 r2
  go_enter Try.func24, Try.ntmps24
  go_wp2_with fail
  refine same_at hbe ?_
  clear hbe
  go_wp2_with fail
  refine below_at hie ?_
  intro w2 hb2
  clear hie
  go_wp2_with fail
  go_ret
  exact ⟨rfl, hbW.trans (hb2.mono hbW.size)⟩

end Go.Proofs.Yteapkfnklbhdfaa

/- Both sets refuse an Undo alike. -/
namespace Go.Proofs.Yteapkfnklbhdfaa
open Go.RowKit Go.Maps
set_option linter.unusedVariables false

theorem len_split (f : Pv → Bool) : ∀ (P : List Pv), P.length = (P.filter f).length + (P.filter (fun p => !f p)).length
  | [] => rfl
  | p :: P => by
    have := len_split f P
    cases hf : f p <;> simp [hf] <;> omega

/-- As many as there is room for: each number is there. -/
theorem full_len : ∀ {P : List Pv} {m last : Nat}, P.Pairwise (fun p q => p.id < q.id) → (∀ p ∈ P, m < p.id ∧ p.id ≤ last) → m ≤ last → (P.length = last - m ↔ ∀ k : Nat, m < k → k ≤ last → ∃ p ∈ P, p.id = k)
  | [], m, last, hs, h, hm => by
    constructor
    · intro e k h1 h2
      simp at e
      omega
    · intro hk
      by_cases e : m = last
      · subst e; simp
      · obtain ⟨p, hp, _⟩ := hk last (by omega) (Nat.le_refl _)
        exact absurd hp (List.not_mem_nil)
  | p :: P, m, last, hs, h, hm => by
    have hp := h p (List.mem_cons.2 (.inl rfl))
    have hs' := List.pairwise_cons.1 hs
    have hP : ∀ q ∈ P, p.id < q.id ∧ q.id ≤ last := fun q hq => ⟨hs'.1 q hq, (h q (List.mem_cons.2 (.inr hq))).2⟩
    have ih := full_len (P := P) (m := p.id) (last := last) hs'.2 hP hp.2
    have hle := len_ids hs'.2 hP
    have hn : (p :: P).length = P.length + 1 := rfl
    constructor
    · intro e k h1 h2
      have e1 : P.length = last - p.id := by omega
      have e2 : p.id = m + 1 := by omega
      by_cases ek : k = p.id
      · exact ⟨p, List.mem_cons.2 (.inl rfl), ek.symm⟩
      · obtain ⟨q, hq, eq⟩ := ih.1 e1 k (by omega) h2
        exact ⟨q, List.mem_cons.2 (.inr hq), eq⟩
    · intro hk
      have e2 : p.id = m + 1 := by
        obtain ⟨q, hq, eq⟩ := hk (m + 1) (by omega) (by omega)
        rcases List.mem_cons.1 hq with rfl | hq
        · exact eq
        · have := hP q hq; omega
      have e1 : P.length = last - p.id := ih.2 (fun k h1 h2 => by
        obtain ⟨q, hq, eq⟩ := hk k (by omega) h2
        rcases List.mem_cons.1 hq with rfl | hq
        · omega
        · exact ⟨q, hq, eq⟩)
      omega

/-- Undo is refused by both, or by none. -/
theorem rel_undo {P L : List Pv} (h : Rel P L) (hs : P.Pairwise (fun p q => p.id < q.id)) {last l : Nat} (hP : ∀ p ∈ P, 1 ≤ p.id ∧ p.id ≤ last) (hl : l ≤ last) : (∀ k : Int, (l : Int) < k → k ≤ (last : Int) → (fP P k).isSome = true) ↔ L.length - (upP L l).length = last - l := by
  have e1 : L.length = P.length := f2_len h
  have e2 : (upP L l).length = (upP P l).length := f2_len (rel_filter (fun p r hs => by rw [hs.id]) h)
  rw [e1, e2]
  have hsplit : P.length - (upP P l).length = (P.filter (fun p => !decide (p.id ≤ l))).length := by
    have := len_split (fun p => decide (p.id ≤ l)) P
    unfold upP
    omega
  rw [hsplit]
  have hF := full_len (P := P.filter (fun p => !decide (p.id ≤ l))) (m := l) (last := last) (hs.filter _) (fun p hp => by
    have hp' := List.mem_filter.1 hp
    have := hP p hp'.1
    have h2 := hp'.2
    simp at h2
    omega) hl
  rw [hF]
  constructor
  · intro hk k h1 h2
    obtain ⟨p, hp, ep⟩ := fP_isSome.1 (hk (k : Int) (by omega) (by omega))
    have ep' : p.id = k := by omega
    exact ⟨p, List.mem_filter.2 ⟨hp, by simp; omega⟩, ep'⟩
  · intro hk k h1 h2
    obtain ⟨p, hp, ep⟩ := hk k.toNat (by omega) (by omega)
    exact fP_isSome.2 ⟨p, (List.mem_filter.1 hp).1, by omega⟩
end Go.Proofs.Yteapkfnklbhdfaa

/- Both sets in one state, and what a call on both does. -/
namespace Go.Proofs.Yteapkfnklbhdfaa
open Go.RowKit Go.Maps
set_option linter.unusedVariables false

theorem RZ.else {B : Nat} {w w' : World} {x last : Nat} {lv : Value} {L : List Pv} (h : RZ B w x lv last L) (hs : w.heap.size ≤ w'.heap.size) (hb : ∀ k, rdm x lv L k → k < w.heap.size → w'.heap[k]? = w.heap[k]?) : RZ B w' x lv last L := by
  refine ⟨?_, row_keptIf h.lst (fun g hg => hb g (.inr (.inl hg)) (h.lst.lt g hg).2), fun p hp => ⟨(h.byt p hp).1.keptIf (fun g hg hl => hb g (.inr (.inr ⟨p, hp, .inr hg⟩)) hl), (h.byt p hp).2⟩, fun p hp => ⟨(h.nee p hp).1.keptIf (fun g hg hl => hb g (.inr (.inr ⟨p, hp, .inl hg⟩)) hl), (h.nee p hp).2⟩, fun p hp k hk => ⟨Nat.lt_of_lt_of_le (h.apart p hp k hk).1 hs, (h.apart p hp k hk).2⟩, h.ids, h.srt, h.low, h.sml, h.base⟩
  rw [hb x (.inl rfl) h.lt]; exact h.row

theorem RZ.dm_lt {B : Nat} {w : World} {x last : Nat} {lv : Value} {L : List Pv} (h : RZ B w x lv last L) {k : Nat} (hk : rdm x lv L k) : k < w.heap.size := by
  rcases hk with rfl | hk | ⟨p, hp, hk⟩
  · exact h.lt
  · exact (h.lst.lt k hk).2
  · exact (h.apart p hp k hk).1

/-- The program's set and the document's, in one state; their blocks lie in D. -/
structure Jt (B : Nat) (w : World) (a mp mb x last : Nat) (D : Nat → Prop) : Prop where
  out : ∃ P K lv L, PS B w a mp mb last P K ∧ RZ B w x lv last L ∧ Rel P L ∧ Gd P ∧ (∀ k, dm a mp mb P K k → ¬ rdm x lv L k) ∧ (∀ k, dm a mp mb P K k → D k) ∧ ∀ k, rdm x lv L k → D k
  lo : ∀ k, D k → B ≤ k ∧ k < w.heap.size

/-- What lay in D, and what is new. -/
def nx (D : Nat → Prop) (n : Nat) (V : World) (k : Nat) : Prop := D k ∨ (n ≤ k ∧ k < V.heap.size)

theorem Jt.kept {B : Nat} {w w' : World} {a mp mb x last : Nat} {D : Nat → Prop} (h : Jt B w a mp mb x last D) (hb : Below w.heap.size w w') : Jt B w' a mp mb x last D := by
  obtain ⟨⟨P, K, lv, L, h1, h2, h3⟩, h4⟩ := h
  exact ⟨⟨P, K, lv, L, h1.kept hb, h2.kept hb, h3⟩, fun k hk => ⟨(h4 k hk).1, Nat.lt_of_lt_of_le (h4 k hk).2 hb.size⟩⟩

section
variable {B : Nat} {w : World} {a mp mb x last : Nat} {D : Nat → Prop}

/-- The second set has done the same: both are in one state again. -/
theorem jt_two {w1 V V' : World} {P P' L L' : List Pv} {K K' : Int → Option Value} {lv lv' : Value} {last' : Nat} (hB : B ≤ w.heap.size) (hw1 : w.heap.size ≤ w1.heap.size)
    (hlo : ∀ k, D k → B ≤ k ∧ k < w.heap.size) (hP : PS B w1 a mp mb last' P' K') (hb : Below w1.heap.size w1 V) (hR : RZ B V' x lv' last' L') (hrel : Rel P' L') (hgd : Gd P')
    (hap : ∀ k, dm a mp mb P K k → ¬ rdm x lv L k) (hd : ∀ k, dm a mp mb P K k → D k) (hr : ∀ k, rdm x lv L k → D k)
    (s1 : ∀ k, dm a mp mb P' K' k → dm a mp mb P K k ∨ w.heap.size ≤ k) (s2 : Stp (rdm x lv L) (rdm x lv' L') V V') : Jt B V' a mp mb x last' (nx D w.heap.size V') := by
  have hno : ∀ k, dm a mp mb P' K' k → ¬ rdm x lv L k := fun k hk hr' => by
    rcases s1 k hk with h | h
    · exact hap k h hr'
    · have := hlo k (hr k hr'); omega
  have hV := hP.kept hb
  have hPV' : PS B V' a mp mb last' P' K' := hV.else s2.fr.size (fun k hk hl => s2.fr.block k hl (hno k hk))
  refine ⟨⟨P', K', lv', L', hPV', hR, hrel, hgd, fun k hk hr' => ?_, fun k hk => ?_, fun k hk => ?_⟩, fun k hk => ?_⟩
  · rcases s2.new k hr' with h | h
    · exact hno k hk h
    · have := hV.dm_lt hk; omega
  · rcases s1 k hk with h | h
    · exact .inl (hd k h)
    · exact .inr ⟨h, hPV'.dm_lt hk⟩
  · rcases s2.new k hk with h | h
    · exact .inl (hr k h)
    · have := hb.size; exact .inr ⟨by omega, hR.dm_lt hk⟩
  · have := hb.size
    have := s2.fr.size
    rcases hk with hk | hk
    · have := hlo k hk; omega
    · omega

theorem frame_sub {X Y : Nat → Prop} {w w' : World} (h : Frame X w w') (hs : ∀ k, X k → Y k) : Frame Y w w' := ⟨h.os, h.tape, h.output, h.size, fun k hk hn => h.block k hk (fun e => hn (hs k e))⟩
theorem frame_of {X : Nat → Prop} {w w' : World} (h : Below w.heap.size w w') : Frame X w w' := ⟨h.os, h.tape, h.output, h.size, fun k hk _ => h.block k hk⟩

/-- What the second set's call is to do. -/
def Snd (B : Nat) (a mp mb x last : Nat) (D : Nat → Prop) (n : Nat) (f : Nat) (args : Array Value) (r : Value) (V : World) : Prop :=
  Calls Try.prog f args V fun e V' => e = .returned r ∧ Frame D V V' ∧ ∃ last', last' ≤ last + 1 ∧ Jt B V' a mp mb x last' (nx D n V')

theorem jundo (h : Jt B w a mp mb x last D) (hB : B ≤ w.heap.size) (l : Int) : Calls Try.prog 37 #[.pointer (some ⟨a, 0, none⟩), .int .i64 l] w fun e w' =>
    ∃ r, e = .returned (.int .i64 r) ∧ Frame D w w' ∧ ∀ V, Below w'.heap.size w' V → Snd B a mp mb x last D w.heap.size 42 #[.pointer (some ⟨x, 0, none⟩), .int .i64 l] (.int .i64 r) V := by
  obtain ⟨⟨P, K, lv, L, hP, hR, hrel, hgd, hap, hd, hr⟩, hlo⟩ := h
  by_cases hl : l < 0 ∨ (last : Int) < l
  · refine (undo_arg hP l hl).mono fun e w' ⟨he, hw⟩ => ⟨1, he, by rw [hw]; exact Frame.refl _ _, fun V hb => ?_⟩
    subst hw
    refine (rundo_arg (hR.kept hb) l hl).mono fun e' V' ⟨he', hV⟩ => ⟨he', by rw [hV]; exact Frame.refl _ _, last, by omega, ?_⟩
    subst hV
    exact jt_two (P := P) (K := K) (L := L) (lv := lv) hB (Nat.le_refl _) hlo hP hb (hR.kept hb) hrel hgd hap hd hr (fun k hk => .inl hk) (Stp.refl _ _)
  · obtain ⟨n, rfl⟩ : ∃ n : Nat, l = (n : Int) := ⟨l.toNat, by omega⟩
    have hn : n ≤ last := by omega
    have hrel2 := rel_undo hrel hP.srt (fun p hp => ⟨(hP.ids p hp).1, (hP.ids p hp).2.1⟩) hn
    refine (undo_ok hP n hn).mono fun e w' hh => ?_
    rcases hh with ⟨⟨hno, he⟩, hbl⟩ | ⟨⟨hyes, he⟩, K', hP', hst⟩
    · refine ⟨3, he, frame_of hbl, fun V hb => ?_⟩
      have hR1 := (hR.kept hbl).kept hb
      refine (rundo_ok hR1 n hn).mono fun e' V' hh' => ?_
      rcases hh' with ⟨⟨_, he'⟩, hbl'⟩ | ⟨⟨hy, _⟩, _⟩
      · refine ⟨he', frame_of hbl', last, by omega, ?_⟩
        exact jt_two (P := P) (K := K) (L := L) (lv := lv) hB hbl.size hlo (hP.kept hbl) hb (hR1.kept hbl') hrel hgd hap hd hr (fun k hk => .inl hk) ⟨frame_of hbl', fun k hk => .inl hk⟩
      · exact absurd (hrel2.2 hy) hno
    · refine ⟨0, he, frame_sub hst.fr hd, fun V hb => ?_⟩
      have hR1 : RZ B V x lv last L := (hR.else hst.fr.size (fun k hk hl => hst.fr.block k hl (fun e => hap k e hk))).kept hb
      refine (rundo_ok hR1 n hn).mono fun e' V' hh' => ?_
      rcases hh' with ⟨⟨hy, _⟩, _⟩ | ⟨⟨_, he'⟩, lv', hR', hst'⟩
      · exact absurd (hrel2.1 hyes) hy
      · refine ⟨he', frame_sub hst'.fr hr, n, by omega, ?_⟩
        exact jt_two (P := P) (K := K) (L := L) (lv := lv) hB hst.fr.size hlo hP' hb hR' (rel_up hrel hgd n) (hgd.up n) hap hd hr hst.new hst'

theorem jdone (h : Jt B w a mp mb x last D) (hB : B ≤ w.heap.size) (p : Option Addr) (n c : Nat) (zs : List Int) (hz : II w p n zs) (hn8 : n * 8 ≤ 140737488355328) : Calls Try.prog 33 #[.pointer (some ⟨a, 0, none⟩), .slice p n c] w fun e w' =>
    ∃ r, e = .returned (.int .i64 r) ∧ Frame D w w' ∧ ∀ V, Below w'.heap.size w' V → ∀ q m d, II V q m zs → Snd B a mp mb x last D w.heap.size 41 #[.pointer (some ⟨x, 0, none⟩), .slice q m d] (.int .i64 r) V := by
  obtain ⟨⟨P, K, lv, L, hP, hR, hrel, hgd, hap, hd, hr⟩, hlo⟩ := h
  have hbs : ∀ p ∈ P, 1 ≤ p.bs.length := fun p hp => (hP.ids p hp).2.2.2.1
  have hbad := rel_bad hrel hgd hbs zs
  cases hk : zs.all (kn last) with
  | false =>
    refine (done_unknown hP p n c zs hz hk).mono fun e w' ⟨he, hw⟩ => ⟨70, he, by rw [hw]; exact Frame.refl _ _, fun V hb q m d hq => ?_⟩
    subst hw
    refine (rdone_ok (hR.kept hb) q m d zs hq).mono fun e' V' hh => ?_
    rcases hh with ⟨⟨_, he'⟩, hV⟩ | ⟨⟨hy, _⟩, _⟩ | ⟨⟨hy, _⟩, _⟩
    · subst hV
      exact ⟨he', Frame.refl _ _, last, by omega, jt_two (P := P) (K := K) (L := L) (lv := lv) hB (Nat.le_refl _) hlo hP hb (hR.kept hb) hrel hgd hap hd hr (fun k hk => .inl hk) (Stp.refl _ _)⟩
    · unfold allK at hy; rw [hk] at hy; cases hy
    · unfold allK at hy; rw [hk] at hy; cases hy
  | true =>
    refine (done_ok hP p n c zs hz hn8 hk).mono fun e w' hh => ?_
    rcases hh with ⟨⟨hno, he⟩, hbl⟩ | ⟨⟨hyes, he⟩, K', hP', hst⟩
    · refine ⟨3, he, frame_of hbl, fun V hb q m d hq => ?_⟩
      have hR1 := (hR.kept hbl).kept hb
      refine (rdone_ok hR1 q m d zs hq).mono fun e' V' hh' => ?_
      rcases hh' with ⟨⟨hy, _⟩, _⟩ | ⟨⟨_, _, he'⟩, hbl'⟩ | ⟨⟨_, hy, _⟩, _⟩
      · unfold allK at hy; rw [hk] at hy; cases hy
      · refine ⟨he', frame_of hbl', last, by omega, ?_⟩
        exact jt_two (P := P) (K := K) (L := L) (lv := lv) hB hbl.size hlo (hP.kept hbl) hb (hR1.kept hbl') hrel hgd hap hd hr (fun k hk => .inl hk) ⟨frame_of hbl', fun k hk => .inl hk⟩
      · rw [hbad, hno] at hy; cases hy
    · refine ⟨0, he, frame_sub hst.fr hd, fun V hb q m d hq => ?_⟩
      have hR1 : RZ B V x lv last L := (hR.else hst.fr.size (fun k hk hl => hst.fr.block k hl (fun e => hap k e hk))).kept hb
      refine (rdone_ok hR1 q m d zs hq).mono fun e' V' hh' => ?_
      rcases hh' with ⟨⟨hy, _⟩, _⟩ | ⟨⟨_, hy, _⟩, _⟩ | ⟨⟨_, _, he'⟩, lv', hR', hst'⟩
      · unfold allK at hy; rw [hk] at hy; cases hy
      · rw [hbad, hyes] at hy; cases hy
      · refine ⟨he', frame_sub hst'.fr hr, last, by omega, ?_⟩
        exact jt_two (P := P) (K := K) (L := L) (lv := lv) hB hst.fr.size hlo hP' hb hR' (rel_kp hrel hgd zs) (hgd.kp hyes) hap hd hr hst.new hst'

theorem jadd (h : Jt B w a mp mb x last D) (hB : B ≤ w.heap.size) (hsm : last + 1 ≤ 512) (b o : Int) (hb64 : I64 b) (p : Option Addr) (n c : Nat) (xs : List Int) (hx : BI w p n xs) (q : Option Addr) (m d : Nat) (zs : List Int) (hz : II w q m zs) (hm8 : m * 8 ≤ 140737488351232) :
    Calls Try.prog 36 #[.pointer (some ⟨a, 0, none⟩), .int .i64 b, .int .i64 o, .slice p n c, .slice q m d] w fun e w' =>
    ∃ r1 r2, e = .returned (.tuple #[.int .i64 r1, .int .i64 r2]) ∧ Frame D w w' ∧ ∀ V, Below w'.heap.size w' V → ∀ p' c' q' m' d', BI V p' n xs → II V q' m' zs →
      Snd B a mp mb x last D w.heap.size 40 #[.pointer (some ⟨x, 0, none⟩), .int .i64 b, .int .i64 o, .slice p' n c', .slice q' m' d'] (.tuple #[.int .i64 r1, .int .i64 r2]) V := by
  obtain ⟨⟨P, K, lv, L, hP, hR, hrel, hgd, hap, hd, hr⟩, hlo⟩ := h
  have hbs : ∀ p ∈ P, 1 ≤ p.bs.length := fun p hp => (hP.ids p hp).2.2.2.1
  have hlen := hP.len
  have hlx := hx.len
  by_cases hmay : mayAt b o n
  · obtain ⟨bl, rfl⟩ := Int.eq_ofNat_of_zero_le hmay.1
    obtain ⟨of, rfl⟩ := Int.eq_ofNat_of_zero_le hmay.2.1
    have hbl : bl ≤ 9223372036854775807 := by have := hb64.2; omega
    cases hk : zs.all (kn last) with
    | false =>
      refine (sadd_unknown hP _ _ p n c hx.big hmay q m d zs hz hk).mono fun e w' ⟨he, hw⟩ => ⟨0, 70, he, by rw [hw]; exact Frame.refl _ _, fun V hb p' c' q' m' d' hp' hq' => ?_⟩
      subst hw
      refine (radd_ok (hR.kept hb) (by omega) bl of hbl p' n c' xs hp' hmay q' m' d' zs hq').mono fun e' V' hh => ?_
      rcases hh with ⟨⟨_, he'⟩, hbl'⟩ | ⟨⟨hy, _⟩, _⟩
      · exact ⟨he', frame_of hbl', last, by omega, jt_two (P := P) (K := K) (L := L) (lv := lv) hB (Nat.le_refl _) hlo hP hb ((hR.kept hb).kept hbl') hrel hgd hap hd hr (fun k hk => .inl hk) ⟨frame_of hbl', fun k hk => .inl hk⟩⟩
      · unfold allK at hy; rw [hk] at hy; cases hy
    | true =>
      refine (sadd_ok hP (by omega) bl of hbl p n c xs hx hmay q m d zs hz hk (by omega)).mono fun e w' ⟨he, pn, K', e1, e2, e3, e4, e5, hP', hst⟩ => ?_
      refine ⟨_, _, he, frame_sub hst.fr hd, fun V hb p' c' q' m' d' hp' hq' => ?_⟩
      have hR1 : RZ B V x lv last L := (hR.else hst.fr.size (fun k hk hl => hst.fr.block k hl (fun e => hap k e hk))).kept hb
      refine (radd_ok hR1 (by omega) bl of hbl p' n c' xs hp' hmay q' m' d' zs hq').mono fun e' V' hh => ?_
      rcases hh with ⟨⟨hy, _⟩, _⟩ | ⟨⟨_, he'⟩, rn, lv', f1, f2, f3, f4, f5, hR', hst'⟩
      · unfold allK at hy; rw [hk] at hy; cases hy
      · have hin := hP'.ids pn (List.mem_append.2 (.inr (List.mem_singleton.2 rfl)))
        have hPid : ∀ p ∈ P, 1 ≤ p.id ∧ p.id ≤ last := fun p hp => ⟨(hP.ids p hp).1, (hP.ids p hp).2.1⟩
        refine ⟨he', frame_sub hst'.fr hr, last + 1, by omega, ?_⟩
        refine jt_two (P := P) (K := K) (L := L) (lv := lv) hB hst.fr.size hlo hP' hb hR' ?_ (hgd.add hPid e1 hin.2.2.2.2 e5) hap hd hr hst.new hst'
        exact rel_add hrel hgd hPid hbs (fun r hr' y hy => (hR1.low r hr' y hy).2) e1 f1 (by rw [f2, e2]) (by rw [f3, e3]) (by rw [f4, e4]) hin.2.2.2.2 hin.2.2.2.1 e5 f5
  · refine (sadd_arg hP b o p n c hx.big _ hmay).mono fun e w' ⟨he, hw⟩ => ⟨0, 1, he, by rw [hw]; exact Frame.refl _ _, fun V hb p' c' q' m' d' hp' hq' => ?_⟩
    subst hw
    refine (radd_arg (hR.kept hb) b o p' n c' hx.big _ hmay).mono fun e' V' ⟨he', hbl'⟩ => ?_
    exact ⟨he', frame_of hbl', last, by omega, jt_two (P := P) (K := K) (L := L) (lv := lv) hB (Nat.le_refl _) hlo hP hb ((hR.kept hb).kept hbl') hrel hgd hap hd hr (fun k hk => .inl hk) ⟨frame_of hbl', fun k hk => .inl hk⟩⟩
end
end Go.Proofs.Yteapkfnklbhdfaa

/- slices.Clone of numbers. -/
namespace Go.Proofs.Yteapkfnklbhdfaa
open Go.RowKit Go.Maps
set_option linter.unusedVariables false

theorem iclone_ok (p : Option Addr) (n c : Nat) (xs : List Int) (w : World) (h : II w p n xs) (h8 : n * 8 ≤ 140737488355328) :
    Calls Try.prog 39 #[.slice p n c] w fun e w' => ∃ q d, e = .returned (.slice q n d) ∧ II w' q n xs ∧ (∀ g, blkOf q = some g → w.heap.size ≤ g) ∧ Below w.heap.size w w' := by
  have hlen := h.len
  have fin : ∀ v w', w'.ownsRow w.heap.size 3 1 v n (xs.map (Value.int .i64)) → ∃ q d, v = .slice q n d ∧ II w' q n xs ∧ ∀ g, blkOf q = some g → w.heap.size ≤ g := fun v w' ho => by
    have hN : Nums w.heap.size w' v xs := by unfold Nums; rw [hlen]; exact ho
    obtain ⟨q, d, e, hi, hp⟩ := hN.ii (by rw [hlen]; exact h.big) h.fit
    rw [hlen] at e hi
    refine ⟨q, d, e, hi, fun g hg => ?_⟩
    cases q with
    | none => cases hg
    | some a =>
      refine (ho.lt g ?_).1
      rw [e]
      simpa [blkOf, Value.ownBlock] using hg
  cases p with
  | none =>
    have hn : n = 0 := by
      rcases Nat.eq_zero_or_pos n with h0 | h0
      · exact h0
      · obtain ⟨b, o, e, _⟩ := h.cells h0; cases e
    subst hn
    refine (sh_slices_Clone_int_nil 0 c w).mono ?_
    rintro e w' ⟨rfl, rfl⟩
    exact ⟨none, 0, rfl, h, (fun g hg => by cases hg), Below.refl _ _⟩
  | some a =>
    rcases Nat.eq_zero_or_pos n with h0 | h0
    · subst h0
      refine (sh_slices_Clone_int_zero a c w).mono ?_
      rintro e w' ⟨v, rfl, ho, _, hb⟩
      have hx : xs = [] := List.length_eq_zero_iff.1 hlen
      obtain ⟨q, d, rfl, h1, h2⟩ := fin v w' (by rw [hx]; exact ho)
      exact ⟨q, d, rfl, h1, h2, hb⟩
    · obtain ⟨b, o, e, hc⟩ := h.cells h0
      injection e with e
      subst e
      refine (sh_slices_Clone_int b o n c xs w (by omega) h8 (fun j hj => hc j (by omega))).mono ?_
      rintro e w' ⟨v, rfl, ho, _, hb⟩
      rw [List.take_of_length_le (by omega)] at ho
      obtain ⟨q, d, rfl, h1, h2⟩ := fin v w' ho
      exact ⟨q, d, rfl, h1, h2, hb⟩

end Go.Proofs.Yteapkfnklbhdfaa

/- What is left when a call on both sets has been made. -/
namespace Go.Proofs.Yteapkfnklbhdfaa
open Go.RowKit Go.Maps
set_option linter.unusedVariables false

theorem Jt.other {B : Nat} {w w' : World} {a mp mb x last : Nat} {D X : Nat → Prop} (h : Jt B w a mp mb x last D) (hf : Frame X w w') (hX : ∀ k, D k → ¬ X k) : Jt B w' a mp mb x last D := by
  obtain ⟨⟨P, K, lv, L, h1, h2, h3, h4, h5, h6, h7⟩, h8⟩ := h
  exact ⟨⟨P, K, lv, L, h1.else hf.size (fun k hk hl => hf.block k hl (hX k (h6 k hk))), h2.else hf.size (fun k hk hl => hf.block k hl (hX k (h7 k hk))), h3, h4, h5, h6, h7⟩, fun k hk => ⟨(h8 k hk).1, Nat.lt_of_lt_of_le (h8 k hk).2 hf.size⟩⟩
theorem Jt.wide {B : Nat} {w : World} {a mp mb x last : Nat} {D D' : Nat → Prop} (h : Jt B w a mp mb x last D) (hs : ∀ k, D k → D' k) (hl : ∀ k, D' k → B ≤ k ∧ k < w.heap.size) : Jt B w a mp mb x last D' := by
  obtain ⟨⟨P, K, lv, L, h1, h2, h3, h4, h5, h6, h7⟩, h8⟩ := h
  exact ⟨⟨P, K, lv, L, h1, h2, h3, h4, h5, fun k hk => hs k (h6 k hk), fun k hk => hs k (h7 k hk)⟩, hl⟩

theorem does_fin {B : Nat} {w w2 w4 w5 w6 : World} {a mp mb x last : Nat} {D X : Nat → Prop} (hB : B ≤ w.heap.size) (hlo : ∀ k, D k → B ≤ k ∧ k < w.heap.size) (hb2 : Below w.heap.size w w2) (hF : Frame D w2 w4) (hJ : Jt B w4 a mp mb x last (nx D w2.heap.size w4))
    (hb5 : Below w4.heap.size w4 w5) (hX : ∀ k, X k → w.heap.size ≤ k ∧ k < w2.heap.size) (hF6 : Frame X w5 w6) : Frame D w w6 ∧ Jt B w6 a mp mb x last (nx D w.heap.size w6) := by
  have s1 := hb2.size
  have s2 := hF.size
  have s3 := hb5.size
  have s4 := hF6.size
  constructor
  · refine ⟨?_, ?_, ?_, by omega, fun k hk hn => ?_⟩
    · rw [hF6.os, hb5.os, hF.os, hb2.os]
    · rw [hF6.tape, hb5.tape, hF.tape, hb2.tape]
    · rw [hF6.output, hb5.output, hF.output, hb2.output]
    · rw [hF6.block k (by omega) (fun e => by have := hX k e; omega), hb5.block k (by omega), hF.block k (by omega) hn, hb2.block k hk]
  · have h1 := (hJ.kept hb5).other hF6 (fun k hk e => by
      have := hX k e
      rcases hk with hk | hk
      · have := hlo k hk; omega
      · omega)
    refine h1.wide (fun k hk => ?_) (fun k hk => ?_)
    · rcases hk with hk | hk
      · exact .inl hk
      · exact .inr ⟨by omega, by omega⟩
    · rcases hk with hk | hk
      · have := hlo k hk; omega
      · omega

end Go.Proofs.Yteapkfnklbhdfaa

/- A call on both sets, as the list says. -/
namespace Go.Proofs.Yteapkfnklbhdfaa
open Go.RowKit Go.Maps
set_option linter.unusedVariables false

theorem BI.keptIf0 {w w' : World} {q : Option Addr} {n : Nat} {zs : List Int} (h : BI w q n zs) (hb : 0 < n → ∀ g, blkOf q = some g → g < w.heap.size → w'.heap[g]? = w.heap[g]?) : BI w' q n zs := by
  by_cases h0 : 0 < n
  · exact h.keptIf (hb h0)
  · exact ⟨h.len, h.big, h.byt, fun hn => absurd hn h0⟩
theorem II.keptIf0 {w w' : World} {q : Option Addr} {n : Nat} {zs : List Int} (h : II w q n zs) (hb : 0 < n → ∀ g, blkOf q = some g → g < w.heap.size → w'.heap[g]? = w.heap[g]?) : II w' q n zs := by
  by_cases h0 : 0 < n
  · exact h.keptIf (hb h0)
  · exact ⟨h.len, h.big, h.fit, fun hn => absurd hn h0⟩

theorem jrplan {B : Nat} {w : World} {a mp mb x last : Nat} {D : Nat → Prop} (h : Jt B w a mp mb x last D) (b : Int) (p : Option Addr) (c : Nat) (xs : List Int) (hx : BI w p 128 xs) :
    Calls Try.prog 19 #[.pointer (some ⟨x, 0, none⟩), .int .i64 b, .slice p 128 c] w fun e w' => ∃ op on oc q k d er, e = .returned (.tuple #[.slice op on oc, .slice q k d, .int .i64 er]) ∧ Below w.heap.size w w' ∧ ∃ ys, II w' q k ys ∧ k ≤ 1000 ∧ on ≤ 128 ∧ ∀ g, blkOf q = some g → w.heap.size ≤ g := by
  obtain ⟨⟨P, K, lv, L, hP, hR, hrel, hgd, hap, hd, hr⟩, hlo⟩ := h
  refine (rplan_ok hR b p c xs hx).mono fun e w' ⟨ov, iv, er, he, hb, hrp⟩ => ?_
  obtain ⟨M, k, hM, hfix, hres⟩ := hrp.out
  have hbs : ∀ p ∈ P, 1 ≤ p.bs.length := fun p hp => (hP.ids p hp).2.2.2.1
  have e1 := rel_may hrel hgd hbs b xs hM hfix
  have hlen := pl_len hP b xs
  have hi := pl_i64 hP b xs
  rw [← e1] at hlen hi
  rcases hres with ⟨_, h1, h2, h3⟩ | ⟨_, h1, ⟨g, cap, h2, _⟩, h3⟩
  · subst h1 h2 h3
    exact ⟨none, 0, 0, none, 0, 0, 71, he, hb, [], ⟨rfl, by omega, (fun x hx => by cases hx), fun h => by omega⟩, by omega, by omega, fun g hg => by cases hg⟩
  · subst h1 h2
    have h3' : Nums w.heap.size w' iv M := h3
    obtain ⟨q, d, e, hI, _⟩ := h3'.ii (by omega) (fun x hx => ⟨by have := hi x hx; omega, by have := hi x hx; have := hP.sml; omega⟩)
    subst e
    refine ⟨_, 128, cap, q, M.length, d, 0, he, hb, M, hI, hlen, Nat.le_refl _, fun g' hg' => ?_⟩
    cases q with
    | none => cases hg'
    | some ad => exact (World.ownsRow.lt h3' g' (by simpa [blkOf, Value.ownBlock] using hg')).1

set_option maxRecDepth 100000 in
set_option maxHeartbeats 4000000 in
theorem does_ok {B : Nat} {w : World} {a mp mb x last : Nat} {D : Nat → Prop} (h : Jt B w a mp mb x last D) (hB : B ≤ w.heap.size) (hsm : last + 1 ≤ 512) (op b o : Int) (hb64 : I64 b) (ho64 : I64 o) (hop : I64 op)
    (p : Option Addr) (n c : Nat) (xs : List Int) (hx : BI w p n xs) (q : Option Addr) (m d : Nat) (zs : List Int) (hz : II w q m zs) (hm8 : m * 8 ≤ 140737488351232) (hp : 0 < n → ∀ g, blkOf p = some g → g < B) (hq : 0 < m → ∀ g, blkOf q = some g → g < B) :
    Calls Try.prog 10 #[.pointer (some ⟨a, 0, none⟩), .pointer (some ⟨x, 0, none⟩), .agg #[.int .i64 op, .int .i64 b, .int .i64 o, .slice p n c, .slice q m d]] w fun e w' =>
      e = .returned (.bool true) ∧ Frame D w w' ∧ ∃ last', last' ≤ last + 1 ∧ Jt B w' a mp mb x last' (nx D w.heap.size w') := by
  obtain ⟨W, hW⟩ : ∃ W, (w.alloc (.cells #[.int .i64 op, .int .i64 b, .int .i64 o, .slice p n c, .slice q m d] 32)) = W := ⟨_, rfl⟩
  have hbW : Below w.heap.size w W := by rw [← hW]; exact (Below.refl _ _).alloc (Nat.le_refl _) _
  have hbWd : Below w.heap.size w W.drew := hbW.drew
  have hT : W.drew.heap[w.heap.size]? = some (.cells #[.int .i64 op, .int .i64 b, .int .i64 o, .slice p n c, .slice q m d] 32 (0, 0)) := by rw [← hW]; exact at_new rfl
  have hTs : w.heap.size < W.drew.heap.size := (Array.getElem?_eq_some_iff.1 hT).1
  have hrow : ∀ w', Below W.drew.heap.size W.drew w' → w'.heap[w.heap.size]? = some (.cells #[.int .i64 op, .int .i64 b, .int .i64 o, .slice p n c, .slice q m d] 32 (0, 0)) := fun w' hb => (hb.block _ hTs).trans hT
  have hc1 := bclone0_ok p n c xs W.drew (hx.kept hbWd)
  have hc2 : ∀ w', Below W.drew.heap.size W.drew w' → _ := fun w' hb => iclone_ok q m d zs w' ((hz.kept hbWd).kept hb) (by omega)
  have z3d : W.drew.cell? ⟨w.heap.size, 3, none⟩ = some (.slice p n c) := cell_of_row _ _ 3 _ 32 _ hT
  have z4d : W.drew.cell? ⟨w.heap.size, 4, none⟩ = some (.slice q m d) := cell_of_row _ _ 4 _ 32 _ hT
  have HJ : Hid _ := h.kept hbWd
  have HLO : Hid _ := h.lo
  have HX : Hid _ := And.intro hx (And.intro hz (And.intro hp hq))
  have HBW : Hid _ := hbWd
  have HR : Hid _ := hrow
  have HC2 : Hid _ := hc2
  clear h hx hz hp hq hbW hbWd hrow hc2
  go_enter Try.func10, Try.ntmps10
  go_wp2_with fail
  go_region_held3 (fun w' => w'.cell? ⟨w.heap.size, 3, none⟩ = some (.slice p n c) ∧ w'.cell? ⟨w.heap.size, 4, none⟩ = some (.slice q m d)) (first | exact ⟨z3d, z4d⟩ | exact ⟨z3A, z4A⟩ | exact ⟨z3B, z4B⟩)
    (first
      | (go_at_call 38; refine Calls.mono hc1 ?_; rintro e w1 ⟨bp, bn, bc, rfl, hb1, hf1, hbl1⟩; have z3A : w1.cell? ⟨w.heap.size, 3, none⟩ = some (.slice p n c) := cell_of_row _ _ 3 _ 32 _ (HR.out w1 hbl1); have z4A : w1.cell? ⟨w.heap.size, 4, none⟩ = some (.slice q m d) := cell_of_row _ _ 4 _ 32 _ (HR.out w1 hbl1); have hc2 := HC2.out w1 hbl1)
      | (go_at_call 39; refine Calls.mono hc2 ?_; rintro e w2 ⟨ip, ic, rfl, hi2, hf2, hbl2⟩; have z3B : w2.cell? ⟨w.heap.size, 3, none⟩ = some (.slice p n c) := cell_of_row _ _ 3 _ 32 _ (HR.out w2 (hbl1.trans (hbl2.mono hbl1.size))); have z4B : w2.cell? ⟨w.heap.size, 4, none⟩ = some (.slice q m d) := cell_of_row _ _ 4 _ 32 _ (HR.out w2 (hbl1.trans (hbl2.mono hbl1.size)))))
  all_goals (
    clear z3d z4d z3A z4A z3B z4B
    have hblT := hbl1.trans (hbl2.mono hbl1.size)
    have hTT := HR.out w2 hblT
    have hbw2 : Below w.heap.size w w2 := HBW.out.trans (hblT.mono HBW.out.size)
    have hlo : ∀ k, D k → B ≤ k ∧ k < w.heap.size := HLO.out
    obtain ⟨hx, hz, hp, hq⟩ := HX.out
    have hxn := hx.len
    have hbn : bn = n := by have := hb1.len; omega
    subst hbn
    have hs1 := HBW.out.size
    have hs2 := hbl1.size
    have hs3 := hbl2.size
    have ag : ∀ V V', Frame D V V' → (BI V bp bn xs ∧ BI V p bn xs ∧ II V ip m zs ∧ II V q m zs) → (BI V' bp bn xs ∧ BI V' p bn xs ∧ II V' ip m zs ∧ II V' q m zs) := fun V V' hf hh =>
      ⟨hh.1.keptIf (fun g hg hl => hf.block g hl (fun e => by have := (hf1 g hg).1; have := hlo g e; omega)), hh.2.1.keptIf0 (fun h0 g hg hl => hf.block g hl (fun e => by have := hp h0 g hg; have := hlo g e; omega)),
       hh.2.2.1.keptIf (fun g hg hl => hf.block g hl (fun e => by have := hf2 g hg; have := hlo g e; omega)), hh.2.2.2.keptIf0 (fun h0 g hg hl => hf.block g hl (fun e => by have := hq h0 g hg; have := hlo g e; omega))⟩
    have a2 : BI w2 bp bn xs ∧ BI w2 p bn xs ∧ II w2 ip m zs ∧ II w2 q m zs := ⟨hb1.kept hbl2, hx.kept hbw2, hi2, hz.kept hbw2⟩
    have tr : ∀ V V', Frame D V V' → V.heap[w.heap.size]? = some (.cells #[.int .i64 op, .int .i64 b, .int .i64 o, .slice p bn c, .slice q m d] 32 (0, 0)) → V'.heap[w.heap.size]? = some (.cells #[.int .i64 op, .int .i64 b, .int .i64 o, .slice p bn c, .slice q m d] 32 (0, 0)) := fun V V' hf hh => by
      rw [hf.block _ (Array.getElem?_eq_some_iff.1 hh).1 (fun e => by have := hlo _ e; omega)]; exact hh
    have hfr : ∀ V V', Frame D V V' → (∀ g, blkOf bp = some g → ∃ cs, V.heap[g]? = some (.cells cs 5 (0, 0))) → (∀ g, blkOf bp = some g → ∃ cs, V'.heap[g]? = some (.cells cs 5 (0, 0))) := fun V V' hf hh g hg => by
      obtain ⟨cs, hcs⟩ := hh g hg
      exact ⟨cs, by rw [hf.block _ (Array.getElem?_eq_some_iff.1 hcs).1 (fun e => by have := (hf1 g hg).1; have := hlo _ e; omega)]; exact hcs⟩
    have f2 : ∀ g, blkOf bp = some g → ∃ cs, w2.heap[g]? = some (.cells cs 5 (0, 0)) := fun g hg => by
      obtain ⟨cs, hcs⟩ := (hf1 g hg).2
      exact ⟨cs, by rw [hbl2.block _ (Array.getElem?_eq_some_iff.1 hcs).1]; exact hcs⟩
    have hXb : ∀ g, blkOf bp = some g → w.heap.size ≤ g ∧ g < w2.heap.size := fun g hg => ⟨by have := (hf1 g hg).1; omega, by obtain ⟨cs, hcs⟩ := f2 g hg; exact (Array.getElem?_eq_some_iff.1 hcs).1⟩
    have HJ2 : Hid _ := HJ.out.kept hblT
    have z0 : w2.cell? ⟨w.heap.size, 0, none⟩ = some (.int .i64 op) := cell_of_row _ _ 0 _ 32 _ hTT
    have z1 : w2.cell? ⟨w.heap.size, 1, none⟩ = some (.int .i64 b) := cell_of_row _ _ 1 _ 32 _ hTT
    have z2 : w2.cell? ⟨w.heap.size, 2, none⟩ = some (.int .i64 o) := cell_of_row _ _ 2 _ 32 _ hTT
    have G : Hid _ := And.intro ag (And.intro tr (And.intro hfr (And.intro a2 (And.intro f2 (And.intro hXb (And.intro hbw2 (And.intro hTT hlo)))))))
    clear ag tr hfr a2 f2 hXb hbw2 hTT hlo hx hz hp hq hxn hs1 hs2 hs3 hbl1 hbl2 hblT hb1 hf1 hi2 hf2 hc1 hc2
    go_wp2_with fail
    · skip
      have hBd : Below w2.heap.size w2 w2 := Below.refl _ _
      have T2 : w2.heap[w.heap.size]? = some (.cells #[.int .i64 op, .int .i64 b, .int .i64 o, .slice p bn c, .slice q m d] 32 (0, 0)) := G.out.2.2.2.2.2.2.2.1
      have A2 : BI w2 bp bn xs ∧ BI w2 p bn xs ∧ II w2 ip m zs ∧ II w2 q m zs := ⟨G.out.2.2.2.1.1.kept hBd, G.out.2.2.2.1.2.1.kept hBd, G.out.2.2.2.1.2.2.1.kept hBd, G.out.2.2.2.1.2.2.2.kept hBd⟩
      have R2 : ∀ g, blkOf bp = some g → ∃ cs, w2.heap[g]? = some (.cells cs 5 (0, 0)) := G.out.2.2.2.2.1
      have hBs : B ≤ w2.heap.size := Nat.le_trans hB G.out.2.2.2.2.2.2.1.size
      have hU := jadd HJ2.out hBs hsm b o hb64 bp bn bc xs A2.1 ip m ic zs A2.2.2.1 hm8
      have HT2 : Hid _ := And.intro T2 (And.intro A2 R2)
      clear T2 A2 R2
      refine Calls.mono hU ?_
      rintro e w3 ⟨r, r', rfl, hF3, hS⟩
      dsimp only
      have T3 := G.out.2.1 _ _ hF3 HT2.out.1
      have A3 := G.out.1 _ _ hF3 HT2.out.2.1
      have hsn := hS w3 (Below.refl _ _) p c q m d A3.2.1 A3.2.2.2
      unfold Snd at hsn
      have y1 : w3.cell? ⟨w.heap.size, 1, none⟩ = some (.int .i64 b) := cell_of_row _ _ 1 _ 32 _ T3
      have y2 : w3.cell? ⟨w.heap.size, 2, none⟩ = some (.int .i64 o) := cell_of_row _ _ 2 _ 32 _ T3
      have y3 : w3.cell? ⟨w.heap.size, 3, none⟩ = some (.slice p bn c) := cell_of_row _ _ 3 _ 32 _ T3
      have y4 : w3.cell? ⟨w.heap.size, 4, none⟩ = some (.slice q m d) := cell_of_row _ _ 4 _ 32 _ T3
      have HA3 : Hid _ := A3
      have HS : Hid _ := hS
      clear A3 hS hU
      go_wp2_with fail
      refine Calls.mono hsn ?_
      rintro e w4 ⟨rfl, hF4, l', hl', hJ'⟩
      dsimp only
      clear hsn y1 y2 y3 y4
      have A3 := HA3.out
      have R3 := G.out.2.2.1 _ _ hF3 HT2.out.2.2

      have T4 := G.out.2.1 _ _ hF4 T3
      have A4 := G.out.1 _ _ hF4 A3
      have R4 := G.out.2.2.1 _ _ hF4 R3
      have z3 : w4.cell? ⟨w.heap.size, 3, none⟩ = some (.slice p bn c) := cell_of_row _ _ 3 _ 32 _ T4
      have z4 : w4.cell? ⟨w.heap.size, 4, none⟩ = some (.slice q m d) := cell_of_row _ _ 4 _ 32 _ T4
      have hbe := beq_ok (c := bc) (d := c) A4.1 A4.2.1
      have hie := ieq_ok (c := ic) (d := d) A4.2.2.1 A4.2.2.2
      rw [beq_self_eq_true] at hbe hie
      have HA4 : Hid _ := And.intro A4 R4
      have HJ4 : Hid _ := And.intro hl' hJ'
      clear A4 R4 T4 hl' hJ'
      go_wp2_with fail
      refine same_at hbe ?_
      clear hbe
      go_wp2_with fail
      refine below_at hie ?_
      intro w5 hb5
      clear hie
      have hsp := spoil_ok bp bn bc xs w5 (HA4.out.1.1.kept hb5) (fun g _ hg => by obtain ⟨cs, hcs⟩ := HA4.out.2 g hg; exact ⟨cs, by rw [hb5.block _ (Array.getElem?_eq_some_iff.1 hcs).1]; exact hcs⟩)
      have HB5 : Hid _ := hb5
      clear hb5
      go_wp2_with fail
      refine Calls.mono hsp ?_
      rintro e w6 ⟨rfl, hF6⟩
      clear hsp
      dsimp only
      go_wp2_with fail
      go_ret
      have hfin := does_fin hB G.out.2.2.2.2.2.2.2.2 (G.out.2.2.2.2.2.2.1.trans (hBd.mono G.out.2.2.2.2.2.2.1.size)) (hF3.trans hF4) HJ4.out.2 HB5.out (fun k hk => G.out.2.2.2.2.2.1 k hk) hF6
      exact ⟨rfl, hfin.1, l', HJ4.out.1, hfin.2⟩
    · skip
      have hBd : Below w2.heap.size w2 w2 := Below.refl _ _
      have T2 : w2.heap[w.heap.size]? = some (.cells #[.int .i64 op, .int .i64 b, .int .i64 o, .slice p bn c, .slice q m d] 32 (0, 0)) := G.out.2.2.2.2.2.2.2.1
      have A2 : BI w2 bp bn xs ∧ BI w2 p bn xs ∧ II w2 ip m zs ∧ II w2 q m zs := ⟨G.out.2.2.2.1.1.kept hBd, G.out.2.2.2.1.2.1.kept hBd, G.out.2.2.2.1.2.2.1.kept hBd, G.out.2.2.2.1.2.2.2.kept hBd⟩
      have R2 : ∀ g, blkOf bp = some g → ∃ cs, w2.heap[g]? = some (.cells cs 5 (0, 0)) := G.out.2.2.2.2.1
      have hBs : B ≤ w2.heap.size := Nat.le_trans hB G.out.2.2.2.2.2.2.1.size
      have hU := jadd HJ2.out hBs hsm b o hb64 bp bn bc xs A2.1 ip m ic zs A2.2.2.1 hm8
      have HT2 : Hid _ := And.intro T2 (And.intro A2 R2)
      clear T2 A2 R2
      refine Calls.mono hU ?_
      rintro e w3 ⟨r, r', rfl, hF3, hS⟩
      dsimp only
      have T3 := G.out.2.1 _ _ hF3 HT2.out.1
      have A3 := G.out.1 _ _ hF3 HT2.out.2.1
      have hsn := hS w3 (Below.refl _ _) p c q m d A3.2.1 A3.2.2.2
      unfold Snd at hsn
      have y1 : w3.cell? ⟨w.heap.size, 1, none⟩ = some (.int .i64 b) := cell_of_row _ _ 1 _ 32 _ T3
      have y2 : w3.cell? ⟨w.heap.size, 2, none⟩ = some (.int .i64 o) := cell_of_row _ _ 2 _ 32 _ T3
      have y3 : w3.cell? ⟨w.heap.size, 3, none⟩ = some (.slice p bn c) := cell_of_row _ _ 3 _ 32 _ T3
      have y4 : w3.cell? ⟨w.heap.size, 4, none⟩ = some (.slice q m d) := cell_of_row _ _ 4 _ 32 _ T3
      have HA3 : Hid _ := A3
      have HS : Hid _ := hS
      clear A3 hS hU
      go_wp2_with fail
      refine Calls.mono hsn ?_
      rintro e w4 ⟨rfl, hF4, l', hl', hJ'⟩
      dsimp only
      clear hsn y1 y2 y3 y4
      have A3 := HA3.out
      have R3 := G.out.2.2.1 _ _ hF3 HT2.out.2.2

      have T4 := G.out.2.1 _ _ hF4 T3
      have A4 := G.out.1 _ _ hF4 A3
      have R4 := G.out.2.2.1 _ _ hF4 R3
      have z3 : w4.cell? ⟨w.heap.size, 3, none⟩ = some (.slice p bn c) := cell_of_row _ _ 3 _ 32 _ T4
      have z4 : w4.cell? ⟨w.heap.size, 4, none⟩ = some (.slice q m d) := cell_of_row _ _ 4 _ 32 _ T4
      have hbe := beq_ok (c := bc) (d := c) A4.1 A4.2.1
      have hie := ieq_ok (c := ic) (d := d) A4.2.2.1 A4.2.2.2
      rw [beq_self_eq_true] at hbe hie
      have HA4 : Hid _ := And.intro A4 R4
      have HJ4 : Hid _ := And.intro hl' hJ'
      clear A4 R4 T4 hl' hJ'
      go_wp2_with fail
      refine same_at hbe ?_
      clear hbe
      go_wp2_with fail
      refine below_at hie ?_
      intro w5 hb5
      clear hie
      have hsp := spoil_ok bp bn bc xs w5 (HA4.out.1.1.kept hb5) (fun g _ hg => by obtain ⟨cs, hcs⟩ := HA4.out.2 g hg; exact ⟨cs, by rw [hb5.block _ (Array.getElem?_eq_some_iff.1 hcs).1]; exact hcs⟩)
      have HB5 : Hid _ := hb5
      clear hb5
      go_wp2_with fail
      refine Calls.mono hsp ?_
      rintro e w6 ⟨rfl, hF6⟩
      clear hsp
      dsimp only
      go_wp2_with fail
      go_ret
      have hfin := does_fin hB G.out.2.2.2.2.2.2.2.2 (G.out.2.2.2.2.2.2.1.trans (hBd.mono G.out.2.2.2.2.2.2.1.size)) (hF3.trans hF4) HJ4.out.2 HB5.out (fun k hk => G.out.2.2.2.2.2.1 k hk) hF6
      exact ⟨rfl, hfin.1, l', HJ4.out.1, hfin.2⟩
    · skip
      have hBd : Below w2.heap.size w2 w2 := Below.refl _ _
      have T2 : w2.heap[w.heap.size]? = some (.cells #[.int .i64 op, .int .i64 b, .int .i64 o, .slice p bn c, .slice q m d] 32 (0, 0)) := G.out.2.2.2.2.2.2.2.1
      have A2 : BI w2 bp bn xs ∧ BI w2 p bn xs ∧ II w2 ip m zs ∧ II w2 q m zs := ⟨G.out.2.2.2.1.1.kept hBd, G.out.2.2.2.1.2.1.kept hBd, G.out.2.2.2.1.2.2.1.kept hBd, G.out.2.2.2.1.2.2.2.kept hBd⟩
      have R2 : ∀ g, blkOf bp = some g → ∃ cs, w2.heap[g]? = some (.cells cs 5 (0, 0)) := G.out.2.2.2.2.1
      have hBs : B ≤ w2.heap.size := Nat.le_trans hB G.out.2.2.2.2.2.2.1.size
      have hU := jadd HJ2.out hBs hsm b o hb64 bp bn bc xs A2.1 ip m ic zs A2.2.2.1 hm8
      have HT2 : Hid _ := And.intro T2 (And.intro A2 R2)
      clear T2 A2 R2
      refine Calls.mono hU ?_
      rintro e w3 ⟨r, r', rfl, hF3, hS⟩
      dsimp only
      have T3 := G.out.2.1 _ _ hF3 HT2.out.1
      have A3 := G.out.1 _ _ hF3 HT2.out.2.1
      have hsn := hS w3 (Below.refl _ _) p c q m d A3.2.1 A3.2.2.2
      unfold Snd at hsn
      have y1 : w3.cell? ⟨w.heap.size, 1, none⟩ = some (.int .i64 b) := cell_of_row _ _ 1 _ 32 _ T3
      have y2 : w3.cell? ⟨w.heap.size, 2, none⟩ = some (.int .i64 o) := cell_of_row _ _ 2 _ 32 _ T3
      have y3 : w3.cell? ⟨w.heap.size, 3, none⟩ = some (.slice p bn c) := cell_of_row _ _ 3 _ 32 _ T3
      have y4 : w3.cell? ⟨w.heap.size, 4, none⟩ = some (.slice q m d) := cell_of_row _ _ 4 _ 32 _ T3
      have HA3 : Hid _ := A3
      have HS : Hid _ := hS
      clear A3 hS hU
      go_wp2_with fail
      refine Calls.mono hsn ?_
      rintro e w4 ⟨rfl, hF4, l', hl', hJ'⟩
      dsimp only
      clear hsn y1 y2 y3 y4
      have A3 := HA3.out
      have R3 := G.out.2.2.1 _ _ hF3 HT2.out.2.2

      have T4 := G.out.2.1 _ _ hF4 T3
      have A4 := G.out.1 _ _ hF4 A3
      have R4 := G.out.2.2.1 _ _ hF4 R3
      have z3 : w4.cell? ⟨w.heap.size, 3, none⟩ = some (.slice p bn c) := cell_of_row _ _ 3 _ 32 _ T4
      have z4 : w4.cell? ⟨w.heap.size, 4, none⟩ = some (.slice q m d) := cell_of_row _ _ 4 _ 32 _ T4
      have hbe := beq_ok (c := bc) (d := c) A4.1 A4.2.1
      have hie := ieq_ok (c := ic) (d := d) A4.2.2.1 A4.2.2.2
      rw [beq_self_eq_true] at hbe hie
      have HA4 : Hid _ := And.intro A4 R4
      have HJ4 : Hid _ := And.intro hl' hJ'
      clear A4 R4 T4 hl' hJ'
      go_wp2_with fail
      refine same_at hbe ?_
      clear hbe
      go_wp2_with fail
      refine below_at hie ?_
      intro w5 hb5
      clear hie
      have hsp := spoil_ok bp bn bc xs w5 (HA4.out.1.1.kept hb5) (fun g _ hg => by obtain ⟨cs, hcs⟩ := HA4.out.2 g hg; exact ⟨cs, by rw [hb5.block _ (Array.getElem?_eq_some_iff.1 hcs).1]; exact hcs⟩)
      have HB5 : Hid _ := hb5
      clear hb5
      go_wp2_with fail
      refine Calls.mono hsp ?_
      rintro e w6 ⟨rfl, hF6⟩
      clear hsp
      dsimp only
      go_wp2_with fail
      go_ret
      have hfin := does_fin hB G.out.2.2.2.2.2.2.2.2 (G.out.2.2.2.2.2.2.1.trans (hBd.mono G.out.2.2.2.2.2.2.1.size)) (hF3.trans hF4) HJ4.out.2 HB5.out (fun k hk => G.out.2.2.2.2.2.1 k hk) hF6
      exact ⟨rfl, hfin.1, l', HJ4.out.1, hfin.2⟩
    · skip
      have hBd : Below w2.heap.size w2 w2.drew := (Below.refl _ _).drew
      have T2 : w2.drew.heap[w.heap.size]? = some (.cells #[.int .i64 op, .int .i64 b, .int .i64 o, .slice p bn c, .slice q m d] 32 (0, 0)) := G.out.2.2.2.2.2.2.2.1
      have A2 : BI w2.drew bp bn xs ∧ BI w2.drew p bn xs ∧ II w2.drew ip m zs ∧ II w2.drew q m zs := ⟨G.out.2.2.2.1.1.kept hBd, G.out.2.2.2.1.2.1.kept hBd, G.out.2.2.2.1.2.2.1.kept hBd, G.out.2.2.2.1.2.2.2.kept hBd⟩
      have R2 : ∀ g, blkOf bp = some g → ∃ cs, w2.drew.heap[g]? = some (.cells cs 5 (0, 0)) := G.out.2.2.2.2.1
      have hBs : B ≤ w2.drew.heap.size := Nat.le_trans hB G.out.2.2.2.2.2.2.1.size
      have hU := jdone (HJ2.out.kept hBd) hBs ip m ic zs A2.2.2.1 (by omega)
      have z4d : w2.drew.cell? ⟨w.heap.size, 4, none⟩ = some (.slice q m d) := cell_of_row _ _ 4 _ 32 _ T2
      have HT2 : Hid _ := And.intro T2 (And.intro A2 R2)
      clear T2 A2 R2
      go_region_held3 (fun w' => w'.cell? ⟨w.heap.size, 4, none⟩ = some (.slice q m d)) (first | exact z4d | exact z4A | exact z4B)
        (first
          | (go_at_call 33; refine Calls.mono hU ?_; rintro e w3 ⟨r, rfl, hF3, hS⟩; have T3 := G.out.2.1 _ _ hF3 HT2.out.1; have z4A : w3.cell? ⟨w.heap.size, 4, none⟩ = some (.slice q m d) := cell_of_row _ _ 4 _ 32 _ T3; have hsn := hS w3 (Below.refl _ _) q m d (G.out.1 _ _ hF3 HT2.out.2.1).2.2.2; unfold Snd at hsn)
          | (go_at_call 41; refine Calls.mono hsn ?_; rintro e w4 ⟨rfl, hF4, l', hl', hJ'⟩; have z4B : w4.cell? ⟨w.heap.size, 4, none⟩ = some (.slice q m d) := cell_of_row _ _ 4 _ 32 _ (G.out.2.1 _ _ hF4 T3)))
      have A3 := G.out.1 _ _ hF3 HT2.out.2.1
      have R3 := G.out.2.2.1 _ _ hF3 HT2.out.2.2

      have T4 := G.out.2.1 _ _ hF4 T3
      have A4 := G.out.1 _ _ hF4 A3
      have R4 := G.out.2.2.1 _ _ hF4 R3
      have z3 : w4.cell? ⟨w.heap.size, 3, none⟩ = some (.slice p bn c) := cell_of_row _ _ 3 _ 32 _ T4
      have z4 : w4.cell? ⟨w.heap.size, 4, none⟩ = some (.slice q m d) := cell_of_row _ _ 4 _ 32 _ T4
      have hbe := beq_ok (c := bc) (d := c) A4.1 A4.2.1
      have hie := ieq_ok (c := ic) (d := d) A4.2.2.1 A4.2.2.2
      rw [beq_self_eq_true] at hbe hie
      have HA4 : Hid _ := And.intro A4 R4
      have HJ4 : Hid _ := And.intro hl' hJ'
      clear A4 R4 T4 hl' hJ'
      go_wp2_with fail
      refine same_at hbe ?_
      clear hbe
      go_wp2_with fail
      refine below_at hie ?_
      intro w5 hb5
      clear hie
      have hsp := spoil_ok bp bn bc xs w5 (HA4.out.1.1.kept hb5) (fun g _ hg => by obtain ⟨cs, hcs⟩ := HA4.out.2 g hg; exact ⟨cs, by rw [hb5.block _ (Array.getElem?_eq_some_iff.1 hcs).1]; exact hcs⟩)
      have HB5 : Hid _ := hb5
      clear hb5
      go_wp2_with fail
      refine Calls.mono hsp ?_
      rintro e w6 ⟨rfl, hF6⟩
      clear hsp
      dsimp only
      go_wp2_with fail
      go_ret
      have hfin := does_fin hB G.out.2.2.2.2.2.2.2.2 (G.out.2.2.2.2.2.2.1.trans (hBd.mono G.out.2.2.2.2.2.2.1.size)) (hF3.trans hF4) HJ4.out.2 HB5.out (fun k hk => G.out.2.2.2.2.2.1 k hk) hF6
      exact ⟨rfl, hfin.1, l', HJ4.out.1, hfin.2⟩
    · skip
      have hBd : Below w2.heap.size w2 w2.drew := (Below.refl _ _).drew
      have T2 : w2.drew.heap[w.heap.size]? = some (.cells #[.int .i64 op, .int .i64 b, .int .i64 o, .slice p bn c, .slice q m d] 32 (0, 0)) := G.out.2.2.2.2.2.2.2.1
      have A2 : BI w2.drew bp bn xs ∧ BI w2.drew p bn xs ∧ II w2.drew ip m zs ∧ II w2.drew q m zs := ⟨G.out.2.2.2.1.1.kept hBd, G.out.2.2.2.1.2.1.kept hBd, G.out.2.2.2.1.2.2.1.kept hBd, G.out.2.2.2.1.2.2.2.kept hBd⟩
      have R2 : ∀ g, blkOf bp = some g → ∃ cs, w2.drew.heap[g]? = some (.cells cs 5 (0, 0)) := G.out.2.2.2.2.1
      have hBs : B ≤ w2.drew.heap.size := Nat.le_trans hB G.out.2.2.2.2.2.2.1.size
      have hU := jundo (HJ2.out.kept hBd) hBs o
      have z2d : w2.drew.cell? ⟨w.heap.size, 2, none⟩ = some (.int .i64 o) := z2
      have HT2 : Hid _ := And.intro T2 (And.intro A2 R2)
      clear T2 A2 R2
      go_region_held3 (fun w' => w'.cell? ⟨w.heap.size, 2, none⟩ = some (.int .i64 o)) (first | exact z2d | exact z2A | exact z2B)
        (first
          | (go_at_call 37; refine Calls.mono hU ?_; rintro e w3 ⟨r, rfl, hF3, hS⟩; have T3 := G.out.2.1 _ _ hF3 HT2.out.1; have z2A : w3.cell? ⟨w.heap.size, 2, none⟩ = some (.int .i64 o) := cell_of_row _ _ 2 _ 32 _ T3; have hsn := hS w3 (Below.refl _ _); unfold Snd at hsn)
          | (go_at_call 42; refine Calls.mono hsn ?_; rintro e w4 ⟨rfl, hF4, l', hl', hJ'⟩; have z2B : w4.cell? ⟨w.heap.size, 2, none⟩ = some (.int .i64 o) := cell_of_row _ _ 2 _ 32 _ (G.out.2.1 _ _ hF4 T3)))
      have A3 := G.out.1 _ _ hF3 HT2.out.2.1
      have R3 := G.out.2.2.1 _ _ hF3 HT2.out.2.2

      have T4 := G.out.2.1 _ _ hF4 T3
      have A4 := G.out.1 _ _ hF4 A3
      have R4 := G.out.2.2.1 _ _ hF4 R3
      have z3 : w4.cell? ⟨w.heap.size, 3, none⟩ = some (.slice p bn c) := cell_of_row _ _ 3 _ 32 _ T4
      have z4 : w4.cell? ⟨w.heap.size, 4, none⟩ = some (.slice q m d) := cell_of_row _ _ 4 _ 32 _ T4
      have hbe := beq_ok (c := bc) (d := c) A4.1 A4.2.1
      have hie := ieq_ok (c := ic) (d := d) A4.2.2.1 A4.2.2.2
      rw [beq_self_eq_true] at hbe hie
      have HA4 : Hid _ := And.intro A4 R4
      have HJ4 : Hid _ := And.intro hl' hJ'
      clear A4 R4 T4 hl' hJ'
      go_wp2_with fail
      refine same_at hbe ?_
      clear hbe
      go_wp2_with fail
      refine below_at hie ?_
      intro w5 hb5
      clear hie
      have hsp := spoil_ok bp bn bc xs w5 (HA4.out.1.1.kept hb5) (fun g _ hg => by obtain ⟨cs, hcs⟩ := HA4.out.2 g hg; exact ⟨cs, by rw [hb5.block _ (Array.getElem?_eq_some_iff.1 hcs).1]; exact hcs⟩)
      have HB5 : Hid _ := hb5
      clear hb5
      go_wp2_with fail
      refine Calls.mono hsp ?_
      rintro e w6 ⟨rfl, hF6⟩
      clear hsp
      dsimp only
      go_wp2_with fail
      go_ret
      have hfin := does_fin hB G.out.2.2.2.2.2.2.2.2 (G.out.2.2.2.2.2.2.1.trans (hBd.mono G.out.2.2.2.2.2.2.1.size)) (hF3.trans hF4) HJ4.out.2 HB5.out (fun k hk => G.out.2.2.2.2.2.1 k hk) hF6
      exact ⟨rfl, hfin.1, l', HJ4.out.1, hfin.2⟩
    · skip
      have hBd : Below w2.heap.size w2 w2.drew := (Below.refl _ _).drew
      have T2 : w2.drew.heap[w.heap.size]? = some (.cells #[.int .i64 op, .int .i64 b, .int .i64 o, .slice p bn c, .slice q m d] 32 (0, 0)) := G.out.2.2.2.2.2.2.2.1
      have A2 : BI w2.drew bp bn xs ∧ BI w2.drew p bn xs ∧ II w2.drew ip m zs ∧ II w2.drew q m zs := ⟨G.out.2.2.2.1.1.kept hBd, G.out.2.2.2.1.2.1.kept hBd, G.out.2.2.2.1.2.2.1.kept hBd, G.out.2.2.2.1.2.2.2.kept hBd⟩
      have R2 : ∀ g, blkOf bp = some g → ∃ cs, w2.drew.heap[g]? = some (.cells cs 5 (0, 0)) := G.out.2.2.2.2.1
      have hBs : B ≤ w2.drew.heap.size := Nat.le_trans hB G.out.2.2.2.2.2.2.1.size
      obtain ⟨Z, hZ, hZB⟩ := zeros_ok w2.drew
      have hbZ : Below w2.drew.heap.size w2.drew (w2.drew.alloc (.cells Z 5)) := (Below.refl _ _).alloc (Nat.le_refl _) _
      have hpl := jrplan ((HJ2.out.kept hBd).kept hbZ) b _ 128 _ hZB
      have z1d : w2.drew.cell? ⟨w.heap.size, 1, none⟩ = some (.int .i64 b) := z1
      have z1Z : (w2.drew.alloc (.cells Z 5)).cell? ⟨w.heap.size, 1, none⟩ = some (.int .i64 b) := cell_of_row _ _ 1 _ 32 _ ((hbZ.block _ (Array.getElem?_eq_some_iff.1 T2).1).trans T2)
      have HT2 : Hid _ := And.intro T2 (And.intro A2 R2)
      have HZ : Hid _ := And.intro hZB hbZ
      clear T2 A2 R2 hZB hbZ
      go_region_held3 (fun w' => w'.cell? ⟨w.heap.size, 1, none⟩ = some (.int .i64 b)) (first | exact z1d | exact z1Z | exact z1A)
        (first
          | (go_at_call 19; refine Calls.mono hpl ?_; rintro e w3 ⟨op3, on, oc, pq, pk, pd, er, rfl, hb3, ys, hI3, hk3, ho3, hg3⟩; have z1A : w3.cell? ⟨w.heap.size, 1, none⟩ = some (.int .i64 b) := cell_of_row _ _ 1 _ 32 _ ((hb3.block _ (Array.getElem?_eq_some_iff.1 ((HZ.out.2.block _ (Array.getElem?_eq_some_iff.1 HT2.out.1).1).trans HT2.out.1)).1).trans ((HZ.out.2.block _ (Array.getElem?_eq_some_iff.1 HT2.out.1).1).trans HT2.out.1))))
      all_goals (
        have hbA : Below w2.drew.heap.size w2.drew w3 := HZ.out.2.trans (hb3.mono HZ.out.2.size)
        have hF3 : Frame D w2.drew w3 := frame_of hbA
        have T3 := G.out.2.1 _ _ hF3 HT2.out.1
        have HJ3 : Hid _ := (HJ2.out.kept hBd).kept hbA
        by_cases hyes : er = 0 ∧ 0 < on
        · obtain ⟨he0, hon⟩ := hyes
          subst he0
          have hon2 : (0 : Int) < (on : Int) := by omega
          obtain ⟨Z2, hZ2, hZB2⟩ := zeros_ok w3.drew
          have hb3d : Below w3.heap.size w3 w3.drew := (Below.refl _ _).drew
          have hbZ2 : Below w3.drew.heap.size w3.drew (w3.drew.alloc (.cells Z2 5)) := (Below.refl _ _).alloc (Nat.le_refl _) _
          have hpl2 := jrplan ((HJ3.out.kept hb3d).kept hbZ2) b _ 128 _ hZB2
          have T3d : w3.drew.heap[w.heap.size]? = some (.cells #[.int .i64 op, .int .i64 b, .int .i64 o, .slice p bn c, .slice q m d] 32 (0, 0)) := T3
          have T3Z := (hbZ2.block _ (Array.getElem?_eq_some_iff.1 T3d).1).trans T3d
          have y1d : w3.drew.cell? ⟨w.heap.size, 1, none⟩ = some (.int .i64 b) := cell_of_row _ _ 1 _ 32 _ T3d
          have y1Z : (w3.drew.alloc (.cells Z2 5)).cell? ⟨w.heap.size, 1, none⟩ = some (.int .i64 b) := cell_of_row _ _ 1 _ 32 _ T3Z
          have HZ2 : Hid _ := And.intro T3 (And.intro T3Z (And.intro hb3d hbZ2))
          clear T3 T3d T3Z hZB2 hbZ2 hpl hZ hb3d z1A z1d z1Z
          go_wp2_with fail
          go_region_held3 (fun w' => w'.cell? ⟨w.heap.size, 1, none⟩ = some (.int .i64 b)) (first | exact y1d | exact y1Z | exact y1A)
            (first
              | (go_at_call 19; refine Calls.mono hpl2 ?_; rintro e w5 ⟨op5, on5, oc5, lq, lk5, ld, er5, rfl, hb5, ys5, hI5, hk5, ho5, hg5⟩; have y1A : w5.cell? ⟨w.heap.size, 1, none⟩ = some (.int .i64 b) := cell_of_row _ _ 1 _ 32 _ ((hb5.block _ (Array.getElem?_eq_some_iff.1 HZ2.out.2.1).1).trans HZ2.out.2.1)))
          all_goals (
            clear y1d y1Z y1A hpl2 hZ2
            have hcl := iclone_ok lq lk5 ld ys5 w5 hI5 (by omega)
            go_wp2_with fail
            refine Calls.mono hcl ?_
            rintro e w6 ⟨cq, cd, rfl, hI6, hg6, hb6⟩
            clear hcl
            dsimp only
            have hb35 : Below w3.heap.size w3 w5 := HZ2.out.2.2.1.trans ((HZ2.out.2.2.2.trans (hb5.mono HZ2.out.2.2.2.size)).mono HZ2.out.2.2.1.size)
            have hb36 : Below w3.heap.size w3 w6 := hb35.trans (hb6.mono hb35.size)
            have hbB : Below w2.drew.heap.size w2.drew w6 := hbA.trans (hb36.mono hbA.size)
            have HW6 : Hid (Below w.heap.size w w6) := G.out.2.2.2.2.2.2.1.trans ((hBd.trans (hbB.mono hBd.size)).mono G.out.2.2.2.2.2.2.1.size)
            have HX6 : Hid (∀ g, blkOf bp = some g → w.heap.size ≤ g ∧ g < w6.heap.size) := fun g hg => ⟨(G.out.2.2.2.2.2.1 g hg).1, by have h1 := (G.out.2.2.2.2.2.1 g hg).2; have h2 := hBd.size; have h3 := hbB.size; omega⟩
            have hdo := jdone (HJ3.out.kept hb36) (Nat.le_trans hB HW6.out.size) cq lk5 cd ys5 hI6 (by omega)
            have hlq : ∀ g, blkOf lq = some g → ¬ D g := fun g hg hd => by
              have h1 := hg5 g hg
              have h2 := G.out.2.2.2.2.2.2.2.2 g hd
              have h3 := HZ2.out.2.2.2.size
              have h4 := HZ2.out.2.2.1.size
              have h5 := hbA.size
              have h6 := hBd.size
              have h7 := G.out.2.2.2.2.2.2.1.size
              omega
            have H6 : Hid _ := And.intro (hI5.kept hb6) (And.intro hbB hlq)
            clear hI5 hI6 hlq hg5 hg6 hb35 hb36 hbB hb6 hb5
            go_wp2_with fail
            refine Calls.mono hdo ?_
            rintro e w7 ⟨r, rfl, hF7, hS⟩
            clear hdo
            dsimp only
            have hsn := hS w7 (Below.refl _ _) lq lk5 ld (H6.out.1.keptIf (fun g hg hl => hF7.block g hl (H6.out.2.2 g hg)))
            unfold Snd at hsn
            have hF6 : Frame D w2.drew w6 := frame_of H6.out.2.1
            have T3 := G.out.2.1 _ _ hF7 (G.out.2.1 _ _ hF6 HT2.out.1)
            have A3 := G.out.1 _ _ hF7 (G.out.1 _ _ hF6 HT2.out.2.1)
            have R3 := G.out.2.2.1 _ _ hF7 (G.out.2.2.1 _ _ hF6 HT2.out.2.2)
            have HA3 : Hid _ := And.intro T3 (And.intro A3 R3)
            clear T3 A3 R3 hS
            go_wp2_with fail
            refine Calls.mono hsn ?_
            rintro e w4 ⟨rfl, hF4, l', hl', hJ'⟩
            clear hsn
            dsimp only
            obtain ⟨T3, A3, R3⟩ := HA3.out

            have T4 := G.out.2.1 _ _ hF4 T3
            have A4 := G.out.1 _ _ hF4 A3
            have R4 := G.out.2.2.1 _ _ hF4 R3
            have z3 : w4.cell? ⟨w.heap.size, 3, none⟩ = some (.slice p bn c) := cell_of_row _ _ 3 _ 32 _ T4
            have z4 : w4.cell? ⟨w.heap.size, 4, none⟩ = some (.slice q m d) := cell_of_row _ _ 4 _ 32 _ T4
            have hbe := beq_ok (c := bc) (d := c) A4.1 A4.2.1
            have hie := ieq_ok (c := ic) (d := d) A4.2.2.1 A4.2.2.2
            rw [beq_self_eq_true] at hbe hie
            have HA4 : Hid _ := And.intro A4 R4
            have HJ4 : Hid _ := And.intro hl' hJ'
            clear A4 R4 T4 hl' hJ'
            go_wp2_with fail
            refine same_at hbe ?_
            clear hbe
            go_wp2_with fail
            refine below_at hie ?_
            intro w9 hb5
            clear hie
            have hsp := spoil_ok bp bn bc xs w9 (HA4.out.1.1.kept hb5) (fun g _ hg => by obtain ⟨cs, hcs⟩ := HA4.out.2 g hg; exact ⟨cs, by rw [hb5.block _ (Array.getElem?_eq_some_iff.1 hcs).1]; exact hcs⟩)
            have HB5 : Hid _ := hb5
            clear hb5
            go_wp2_with fail
            refine Calls.mono hsp ?_
            rintro e w10 ⟨rfl, hF10⟩
            clear hsp
            dsimp only
            go_wp2_with fail
            go_ret
            have hfin := does_fin hB G.out.2.2.2.2.2.2.2.2 HW6.out (hF7.trans hF4) HJ4.out.2 HB5.out (fun k hk => HX6.out k hk) hF10
            exact ⟨rfl, hfin.1, l', HJ4.out.1, hfin.2⟩)
        · have hF4 : Frame D w3 w3 := Frame.refl _ _
          have hl' : last ≤ last + 1 := by omega
          have hJ' : Jt B w3 a mp mb x last (nx D w2.drew.heap.size w3) := HJ3.out.wide (fun k hk => .inl hk) (fun k hk => by
            rcases hk with hk | hk
            · have h1 := G.out.2.2.2.2.2.2.2.2 k hk; have h2 := G.out.2.2.2.2.2.2.1.size; have h3 := hBd.size; have h4 := hbA.size; omega
            · have h1 := hBs; omega)
          have hno1 : er = 0 → on = 0 := fun e => by by_cases h0 : on = 0; exact h0; exact absurd ⟨e, by omega⟩ hyes
          clear hyes
          by_cases her : er = 0
          · subst her
            obtain rfl : on = 0 := hno1 rfl
            clear hno1
            have A3 := G.out.1 _ _ hF3 HT2.out.2.1
            have R3 := G.out.2.2.1 _ _ hF3 HT2.out.2.2

            have T4 := G.out.2.1 _ _ hF4 T3
            have A4 := G.out.1 _ _ hF4 A3
            have R4 := G.out.2.2.1 _ _ hF4 R3
            have z3 : w3.cell? ⟨w.heap.size, 3, none⟩ = some (.slice p bn c) := cell_of_row _ _ 3 _ 32 _ T4
            have z4 : w3.cell? ⟨w.heap.size, 4, none⟩ = some (.slice q m d) := cell_of_row _ _ 4 _ 32 _ T4
            have hbe := beq_ok (c := bc) (d := c) A4.1 A4.2.1
            have hie := ieq_ok (c := ic) (d := d) A4.2.2.1 A4.2.2.2
            rw [beq_self_eq_true] at hbe hie
            have HA4 : Hid _ := And.intro A4 R4
            have HJ4 : Hid _ := And.intro hl' hJ'
            clear A4 R4 T4 hl' hJ'
            go_wp2_with fail
            refine same_at hbe ?_
            clear hbe
            go_wp2_with fail
            refine below_at hie ?_
            intro w5 hb5
            clear hie
            have hsp := spoil_ok bp bn bc xs w5 (HA4.out.1.1.kept hb5) (fun g _ hg => by obtain ⟨cs, hcs⟩ := HA4.out.2 g hg; exact ⟨cs, by rw [hb5.block _ (Array.getElem?_eq_some_iff.1 hcs).1]; exact hcs⟩)
            have HB5 : Hid _ := hb5
            clear hb5
            go_wp2_with fail
            refine Calls.mono hsp ?_
            rintro e w6 ⟨rfl, hF6⟩
            clear hsp
            dsimp only
            go_wp2_with fail
            go_ret
            have hfin := does_fin hB G.out.2.2.2.2.2.2.2.2 (G.out.2.2.2.2.2.2.1.trans (hBd.mono G.out.2.2.2.2.2.2.1.size)) (hF3.trans hF4) HJ4.out.2 HB5.out (fun k hk => G.out.2.2.2.2.2.1 k hk) hF6
            exact ⟨rfl, hfin.1, last, HJ4.out.1, hfin.2⟩
          · clear hno1
            have A3 := G.out.1 _ _ hF3 HT2.out.2.1
            have R3 := G.out.2.2.1 _ _ hF3 HT2.out.2.2

            have T4 := G.out.2.1 _ _ hF4 T3
            have A4 := G.out.1 _ _ hF4 A3
            have R4 := G.out.2.2.1 _ _ hF4 R3
            have z3 : w3.cell? ⟨w.heap.size, 3, none⟩ = some (.slice p bn c) := cell_of_row _ _ 3 _ 32 _ T4
            have z4 : w3.cell? ⟨w.heap.size, 4, none⟩ = some (.slice q m d) := cell_of_row _ _ 4 _ 32 _ T4
            have hbe := beq_ok (c := bc) (d := c) A4.1 A4.2.1
            have hie := ieq_ok (c := ic) (d := d) A4.2.2.1 A4.2.2.2
            rw [beq_self_eq_true] at hbe hie
            have HA4 : Hid _ := And.intro A4 R4
            have HJ4 : Hid _ := And.intro hl' hJ'
            clear A4 R4 T4 hl' hJ'
            go_wp2_with fail
            refine same_at hbe ?_
            clear hbe
            go_wp2_with fail
            refine below_at hie ?_
            intro w5 hb5
            clear hie
            have hsp := spoil_ok bp bn bc xs w5 (HA4.out.1.1.kept hb5) (fun g _ hg => by obtain ⟨cs, hcs⟩ := HA4.out.2 g hg; exact ⟨cs, by rw [hb5.block _ (Array.getElem?_eq_some_iff.1 hcs).1]; exact hcs⟩)
            have HB5 : Hid _ := hb5
            clear hb5
            go_wp2_with fail
            refine Calls.mono hsp ?_
            rintro e w6 ⟨rfl, hF6⟩
            clear hsp
            dsimp only
            go_wp2_with fail
            go_ret
            have hfin := does_fin hB G.out.2.2.2.2.2.2.2.2 (G.out.2.2.2.2.2.2.1.trans (hBd.mono G.out.2.2.2.2.2.2.1.size)) (hF3.trans hF4) HJ4.out.2 HB5.out (fun k hk => G.out.2.2.2.2.2.1 k hk) hF6
            exact ⟨rfl, hfin.1, last, HJ4.out.1, hfin.2⟩
        ))
end Go.Proofs.Yteapkfnklbhdfaa

/- bytes.Repeat of one byte, 128 times. -/
namespace Go.Proofs.Yteapkfnklbhdfaa
open Go.RowKit Go.Maps
set_option linter.unusedVariables false

set_option maxRecDepth 100000 in
set_option maxHeartbeats 1000000 in
theorem mul64_ok (w : World) : Calls Try.prog 85 #[.int .u64 1, .int .u64 128] w fun e w' => e = .returned (.tuple #[.int .u64 0, .int .u64 128]) ∧ w' = w := by
  go_enter Try.func85, Try.ntmps85
  go_wp2
  go_ret2
  exact ⟨rfl, rfl⟩
set_option maxHeartbeats 400000 in
theorem mul_ok (w : World) : Calls Try.prog 71 #[.int .u64 1, .int .u64 128] w fun e w' => e = .returned (.tuple #[.int .u64 0, .int .u64 128]) ∧ w' = w := by
  have h := mul64_ok w
  go_enter Try.func71, Try.ntmps71
  go_wp2_with (first | (go_at_call 85; refine same_at h ?_))
  go_ret2
  exact ⟨rfl, rfl⟩
theorem called72 (args : Array Value) (w : World) : (callFunc 72 args).run Try.prog w = ((Extern.BytealgMakeNoZero.makeNoZero #[3] #[29] args).run Try.prog w).andThen fun v w' => .ok (.value v) w' :=
  run_callFunc_extern Try.func72 (by kernel_rfl) (by kernel_rfl) (by kernel_rfl) (by kernel_rfl) args w

set_option maxRecDepth 100000 in
set_option maxHeartbeats 2000000 in
theorem repeat_ok (x : Int) (hx : 0 ≤ x ∧ x < 256) (a : Addr) (cp : Nat) (w : World) (h : BI w (some a) 1 [x]) :
    Calls Try.prog 35 #[.slice (some a) 1 cp, .int .i64 128] w fun e w' => ∃ g, e = .returned (.slice (some ⟨g, 0, none⟩) 128 128) ∧ w.heap.size ≤ g ∧ BI w' (some ⟨g, 0, none⟩) 128 (List.replicate 128 x) ∧ (∃ cs, w'.heap[g]? = some (.cells cs 5 (0, 0))) ∧ Below w.heap.size w w' := by
  have hm := mul_ok w
  obtain ⟨cs, hrun, hcs, hcm⟩ := Lib.run_makeNoZero (P := Try.prog) w #[3] 29 5 Try.underlying29 128 (by omega)
  have hcall : (callFunc 72 #[.int .i64 128]).run Try.prog w = .ok (.value (.slice (some ⟨w.heap.size, 0, none⟩) 128 cs.size)) (w.drew.drew.alloc (.cells cs 5)) := by
    rw [called72]
    have : (Extern.BytealgMakeNoZero.makeNoZero #[3] #[29] #[.int .i64 128]).run Try.prog w = _ := hrun
    rw [this]
    rfl
  have hbA : Below w.heap.size w (w.alloc (.cells cs 5)).drew.drew := below_drewN ((Below.refl _ w).alloc (Nat.le_refl _) _) 2
  have hrow0 : (w.alloc (.cells cs 5)).drew.drew.heap[w.heap.size]? = some (.cells cs.toList.toArray 5 (0, 0)) := World.alloc_heap_new w _
  have hsrc := (h.kept hbA).src'
  have hone := one_cells [x]
  go_enter Try.func35, Try.ntmps35
  go_wp2_with (first
    | (go_at_call 71; refine same_at hm ?_)
    | (refine wpList_copy_splice rfl (.tmp 58) (.tmp 59) 29 29 rfl 5 Try.underlying29 size5 _ _ _ _ _ _ rfl rfl w.heap.size 0 cs.toList 5 hrow0 [Value.int .u8 x] rfl (fun _ => ⟨rfl, a, rfl, hsrc⟩) (by simp; omega) hone w.heap.size w hbA (Nat.le_refl _) ?_))
  intro W1 hg1 hb1
  have hrow1 := hg1.out
  clear hg1
  go_wp2_with fail
  go_loopw [10] (fun b wr => ∃ (k : Nat) (cur : List Value), 1 ≤ k ∧ k ≤ 128 ∧ b = .int .i64 (k : Int) ∧ wr.heap[w.heap.size]? = some (.cells cur.toArray 5 (0, 0)) ∧ cur.length = cs.size ∧ cur.take k = List.replicate k (.int .u8 x) ∧ Below w.heap.size w wr) (fun b _ => 128 - (intOf b).toNat)
  case atStart => exact ⟨1, _, by omega, by omega, rfl, hrow1, by rw [length_splice _ _ _ (by simp; omega)]; simp, by simp [splice], hb1⟩
  case round =>
    clear hb1 hrow1 hrow0 hsrc hbA hone hcall hrun
    obtain ⟨k, cur, hk1, hk2, rfl, hrow, hlen, htake, hb⟩ := hrel
    by_cases hlt : k < 128
    · have hI : (k : Int) < 128 := by omega
      have hk0 : (0 : Int) ≤ (k : Int) := by omega
      have hkJ : (k : Int) ≤ 128 := by omega
      obtain ⟨m, hm⟩ : ∃ m, m = min k (128 - k) := ⟨_, rfl⟩
      have hcell : ∀ j, j < k → wr.cell? ⟨w.heap.size, j, none⟩ = some (.int .u8 x) := by
        intro j hj
        have e : cur[j]? = some (.int .u8 x) := by
          have : (cur.take k)[j]? = some (.int .u8 x) := by rw [htake]; simp [hj]
          rw [List.getElem?_take_of_lt hj] at this
          exact this
        simp [World.cell?, hrow, e]
      have hmin : min (k : Int) 128 = (k : Int) := by omega
      have b1 := IntWalk.i64_in (k : Int) (by omega)
      have hml : (List.replicate m (Value.int .u8 x)).length = Nat.min k (128 - k) := by simp [hm]
      have hsrc : ∀ j v, (List.replicate m (Value.int .u8 x))[j]? = some v → wr.drew.cell? ((⟨w.heap.size, 0, none⟩ : Addr).add j) = some v := by
        intro j v hj
        rw [List.getElem?_replicate] at hj
        split at hj
        · cases hj
          have e : (⟨w.heap.size, 0, none⟩ : Addr).add j = ⟨w.heap.size, j, none⟩ := by unfold Addr.add; split <;> simp_all
          rw [e]
          exact hcell j (by omega)
        · cases hj
      have hm1 : 1 ≤ m := by omega
      have hm2 : k + m ≤ 128 := by omega
      have hfit : k + (List.replicate m (Value.int .u8 x)).length ≤ cur.length := by simp; omega
      have hone2 : ∀ v ∈ List.replicate m (Value.int .u8 x), v.oneCell' = true := by
        intro v hv
        rw [(List.mem_replicate.1 hv).2]
        rfl
      have hbd := hb.drew
      have hrd : wr.drew.heap[w.heap.size]? = some (.cells cur.toArray 5 (0, 0)) := hrow
      have HS := (show Hid _ from hsrc)
      have HF := (show Hid _ from hfit)
      have HL := (show Hid _ from hml)
      have HT := (show Hid _ from htake)
      have H1 := (show Hid _ from hone2)
      have HR := (show Hid _ from hrd)
      have b2 := IntWalk.i64_in ((k : Int) + (m : Int)) (by omega)
      clear hsrc hfit hml htake hone2 hrd hcell hrow hm
      go_wp2_with fail
      go_region_law (first | (refine step_copy_splice rfl (.tmp 70) (.tmp 73) 29 29 rfl 5 Try.underlying29 size5 (some ⟨w.heap.size, k, none⟩) (some ⟨w.heap.size, 0, none⟩) (128 - k) (128 - k) k 128 (by simp [Act.eval, Act.put]; omega) (by simp [Act.eval, Act.put]) w.heap.size k cur 5 HR.out (List.replicate m (Value.int .u8 x)) HL.out (fun _ => ⟨rfl, _, rfl, HS.out⟩) HF.out H1.out w.heap.size w hbd (Nat.le_refl _) ?_; intro w5 hg5 hb5))
      go_simp
      go_wp2
      go_roundw
      case rel =>
        refine ⟨k + m, _, by omega, by omega, by go_num, hg5.out, ?_, ?_, hb5⟩
        · rw [length_splice _ _ _ HF.out]; exact hlen
        · have hck : (cur.take k).length = k := by rw [HT.out]; simp
          unfold splice
          rw [HT.out, ← List.append_assoc]
          rw [List.take_append_of_le_length (by simp)]
          rw [List.take_of_length_le (by simp)]
          rw [List.replicate_append_replicate]
      case measure => simp [intOf]; omega
    · obtain rfl : k = 128 := by omega
      have HT := (show Hid _ from htake)
      clear htake
      go_wp2_with fail
      go_ret
      refine ⟨w.heap.size, rfl, Nat.le_refl _, ⟨by simp, by omega, ?_, fun _ => ⟨w.heap.size, 0, rfl, fun i hi => ?_⟩⟩, ⟨_, hrow⟩, hb⟩
      · intro i
        rw [List.getD_eq_getElem?_getD, List.getElem?_replicate]
        split
        · exact hx
        · simp
      · have e : cur[i]? = some (.int .u8 x) := by
          have : (cur.take 128)[i]? = some (.int .u8 x) := by rw [HT.out, List.getElem?_replicate, if_pos hi]
          rw [List.getElem?_take_of_lt hi] at this
          exact this
        rw [Nat.zero_add]
        rw [List.getD_eq_getElem?_getD, List.getElem?_replicate, if_pos hi]
        simp [World.cell?, hrow, e]
end Go.Proofs.Yteapkfnklbhdfaa

/- Both sets asked the same questions. -/
namespace Go.Proofs.Yteapkfnklbhdfaa
open Go.RowKit Go.Maps
set_option linter.unusedVariables false

/-- Both sets in one state. -/
structure Bth (B : Nat) (w : World) (a mp mb x last : Nat) (P : List Pv) (K : Int → Option Value) (lv : Value) (L : List Pv) : Prop where
  ps : PS B w a mp mb last P K
  rz : RZ B w x lv last L
  rel : Rel P L
  gd : Gd P

theorem Bth.on {B : Nat} {w w' : World} {a mp mb x last : Nat} {P L : List Pv} {K : Int → Option Value} {lv : Value} (h : Bth B w a mp mb x last P K lv L) (hb : Below w.heap.size w w') : Bth B w' a mp mb x last P K lv L :=
  ⟨h.ps.kept hb, h.rz.kept hb, h.rel, h.gd⟩

section
variable {B : Nat} {w : World} {a mp mb x last : Nat} {P L : List Pv} {K : Int → Option Value} {lv : Value}

theorem Bth.idl (h : Bth B w a mp mb x last P K lv L) (b : Int) : (idsOf P b).length ≤ 1000 := by
  rw [idsOf_eq, List.length_map]
  exact Nat.le_trans (List.length_filter_le _ _) (Nat.le_trans h.ps.len h.ps.sml)
theorem Bth.idi (h : Bth B w a mp mb x last P K lv L) (b : Int) : ∀ z ∈ idsOf P b, I64 z := fun z hz => by
  rw [idsOf_eq, List.mem_map] at hz
  obtain ⟨p, hp, e⟩ := hz
  exact idOf_i64 h.ps (mem_ofB.1 hp).1 e

theorem Bth.rof (h : Bth B w a mp mb x last P K lv L) (b : Int) : Calls Try.prog 28 #[.pointer (some ⟨x, 0, none⟩), .int .i64 b] w fun e w' => ∃ q m d, e = .returned (.slice q m d) ∧ II w' q m (idsOf P b) ∧ Below w.heap.size w w' := by
  refine (rof_ok h.rz b).mono ?_
  rintro e w' ⟨v, rfl, hN, hbw⟩
  rw [rel_idsOf h.rel] at hN
  obtain ⟨q, d, rfl, hII, hpl⟩ := hN.ii (by have := h.idl b; omega) (h.idi b)
  exact ⟨q, _, d, rfl, hII, hbw⟩

theorem Bth.bli (h : Bth B w a mp mb x last P K lv L) : (blks P).length ≤ 1000 ∧ ∀ z ∈ blks P, I64 z := by
  refine ⟨Nat.le_trans (rs_length _) (by rw [List.length_map]; exact Nat.le_trans h.ps.len h.ps.sml), fun z hz => ?_⟩
  unfold blks at hz
  rw [mem_rs, List.mem_map] at hz
  obtain ⟨p, hp, e⟩ := hz
  have := h.ps.ids p hp
  subst e
  exact ⟨by omega, by omega⟩

theorem Bth.rblocks (h : Bth B w a mp mb x last P K lv L) : Calls Try.prog 44 #[.pointer (some ⟨x, 0, none⟩)] w fun e w' => ∃ q m d, e = .returned (.slice q m d) ∧ II w' q m (blks P) ∧ Below w.heap.size w w' := by
  refine (rblocks_ok h.rz).mono ?_
  rintro e w' ⟨v, rfl, hN, hbw⟩
  rw [rel_blks h.rel] at hN
  obtain ⟨q, d, rfl, hII, hpl⟩ := hN.ii (by have := h.bli.1; omega) h.bli.2
  exact ⟨q, _, d, rfl, hII, hbw⟩

theorem Bth.byts (h : Bth B w a mp mb x last P K lv L) (b : Int) {xs : List Int} (hx : Num.Byt xs) : Num.Byt (ovrs (ofB P b) xs) := ovrs_byt _ _ (fun p hp => (h.ps.byt p (mem_ofB.1 hp).1).1.byt) hx

theorem Bth.rnow (h : Bth B w a mp mb x last P K lv L) (b : Int) (p : Option Addr) (c : Nat) (xs : List Int) (hx : BI w p 128 xs) :
    Calls Try.prog 17 #[.pointer (some ⟨x, 0, none⟩), .int .i64 b, .slice p 128 c] w fun e w' => ∃ q c', e = .returned (.tuple #[.slice q 128 c', .int .i64 0]) ∧ BI w' q 128 (ovrs (ofB P b) xs) ∧ Below w.heap.size w w' := by
  refine (rnow_ok h.rz b p c xs hx).mono ?_
  rintro e w' ⟨g, cap, rfl, hO, hbw⟩
  rw [rel_ovrs (rel_ofB h.rel b)] at hO
  exact ⟨_, _, rfl, hO.bi (by omega) (h.byts b hx.byt), hbw⟩

theorem Bth.rplan (h : Bth B w a mp mb x last P K lv L) (b : Int) (p : Option Addr) (c : Nat) (xs : List Int) (hx : BI w p 128 xs) :
    Calls Try.prog 19 #[.pointer (some ⟨x, 0, none⟩), .int .i64 b, .slice p 128 c] w fun e w' => ∃ ob on oc ib im ic, e = .returned (.tuple #[.slice ob on oc, .slice ib im ic, .int .i64 (plE (plnOf P b xs))]) ∧ BI w' ob on (plB (plnOf P b xs)) ∧ II w' ib im (plnOf P b xs).1 ∧ Below w.heap.size w w' := by
  refine (rplan_ok h.rz b p c xs hx).mono ?_
  rintro e w' ⟨ov, iv, er, rfl, hbw, HR⟩
  obtain ⟨M, k, hM, hfix, hres⟩ := HR.out
  have hbs : ∀ p ∈ P, 1 ≤ p.bs.length := fun p hp => (h.ps.ids p hp).2.2.2.1
  have e1 := rel_may h.rel h.gd hbs b xs hM hfix
  have e2 := rel_plan h.rel h.gd b xs
  subst e1
  rw [e2] at hres
  clear hM hfix
  have hl := pl_len h.ps b xs
  have hi := pl_i64 h.ps b xs
  have hsm := h.ps.sml
  have hby : Num.Byt (plnOf P b xs).2 := pst_byt P _ _ (fun p hp => (h.ps.byt p (mem_ofB.1 hp).1).1.byt) hx.byt
  rcases hres with ⟨h1', rfl, rfl, rfl⟩ | ⟨h1', rfl, ⟨g, cap, rfl, hO⟩, hN⟩
  · refine ⟨none, 0, 0, none, 0, 0, ?_, ?_, ?_, hbw⟩
    · unfold plE; rw [if_pos h1']
    · unfold plB; rw [if_pos h1']; exact ⟨rfl, by omega, (fun i => by simp), fun h => by omega⟩
    · rw [h1']; exact ⟨rfl, by omega, (fun x hx => by cases hx), fun h => by omega⟩
  · have h1'' : (plnOf P b xs).1 ≠ [] := h1'
    obtain ⟨q, d, rfl, hII, hpl⟩ := hN.ii (by show (plnOf P b xs).1.length ≤ _; omega) (fun x hx => by have := hi x hx; exact ⟨by omega, by omega⟩)
    refine ⟨some ⟨g, 0, none⟩, 128, cap, q, _, d, ?_, ?_, hII, hbw⟩
    · unfold plE; rw [if_neg h1'']
    · unfold plB; rw [if_neg h1'']; exact hO.bi (by omega) hby

theorem Bth.rnl (h : Bth B w a mp mb x last P K lv L) : ∀ p ∈ L, p.nd.length ≤ 1000 := fun r hr => by
  obtain ⟨p, hp, hs⟩ := rel_back h.rel r hr
  have := (h.rz.ids r hr).2.1
  have := h.rz.sml
  exact Nat.le_trans (nodup_len last r.nd (hs.nds.imp (fun h => Int.ne_of_lt h)) (fun z hz => by have := h.rz.low r hr z hz; omega)) (by omega)

theorem Bth.ndi (h : Bth B w a mp mb x last P K lv L) {p : Pv} (hp : p ∈ P) : (ndOf P p).length ≤ 1000 ∧ ∀ z ∈ ndOf P p, I64 z := by
  obtain ⟨r, hr, hs⟩ := rel_fwd h.rel p hp
  rw [← rel_get h.rel hs]
  refine ⟨Nat.le_trans (List.length_filter_le _ _) (h.rnl r hr), fun z hz => ?_⟩
  have h1 := h.rz.low r hr z (List.mem_filter.1 hz).1
  have h2 := (h.rz.ids r hr).2.1
  have h3 := h.rz.sml
  exact ⟨by omega, by omega⟩

theorem Bth.rget (h : Bth B w a mp mb x last P K lv L) (k : Int) (p : Pv) (hf : fP P k = some p) :
    Calls Try.prog 21 #[.pointer (some ⟨x, 0, none⟩), .int .i64 k] w fun e w' => ∃ g cap q m d, e = .returned (.tuple #[.agg #[.int .i64 (p.id : Int), .int .i64 (p.blk : Int), .int .i64 (p.off : Int), .slice (some ⟨g, 0, none⟩) p.bs.length cap, .slice q m d], .int .i64 0]) ∧ BI w' (some ⟨g, 0, none⟩) p.bs.length p.bs ∧ II w' q m (ndOf P p) ∧ Below w.heap.size w w' := by
  obtain ⟨r, hr, hs⟩ := rel_find h.rel k p hf
  obtain ⟨hpm, hpk⟩ := fP_some hf
  obtain ⟨hrm, _⟩ := fP_some hr
  refine (rget_ok h.rz k r hr (h.rnl r hrm)).mono ?_
  rintro e w' ⟨g, cap, v, rfl, hO, hN, hbw⟩
  rw [rel_get h.rel hs] at hN
  obtain ⟨q, d, rfl, hII, _⟩ := hN.ii (by have := (h.ndi hpm).1; omega) (h.ndi hpm).2
  have hb := (h.ps.byt p hpm).1
  have hi := h.ps.ids p hpm
  rw [hs.bs] at hO
  rw [hs.id, hs.blk, hs.off, hs.bs]
  exact ⟨g, cap, q, _, d, rfl, hO.bi (by omega) hb.byt, hII, hbw⟩

theorem Bth.clo (h : Bth B w a mp mb x last P K lv L) (p : Option Addr) (n c : Nat) (zs : List Int) (hz : II w p n zs) (hn : Sm n) (O : List Int) (hO : ∀ y, y ∈ O ↔ Rch P zs y) :
    Calls Try.prog 26 #[.pointer (some ⟨x, 0, none⟩), .slice p n c] w fun e w' => ∃ q m d, e = .returned (.slice q m d) ∧ II w' q m (rs O) ∧ Below w.heap.size w w' := by
  refine (rclosure_ok h.rz h.rnl p n c zs hz hn).mono ?_
  rintro e w' ⟨v, rfl, hN, hbw⟩
  have hbs : ∀ p ∈ P, 1 ≤ p.bs.length := fun p hp => (h.ps.ids p hp).2.2.2.1
  have e1 := rel_clo h.rel h.gd hbs (fun r hr y hy => (h.rz.low r hr y hy).2) zs O hO
  have hl : (clL L (wf L zs)).length ≤ 1000 := by
    unfold clL
    rw [List.length_map]
    exact Nat.le_trans (List.length_filter_le _ _) (Nat.le_trans h.rz.len h.rz.sml)
  obtain ⟨q, d, rfl, hII, _⟩ := hN.ii (by omega) (fun z hz => by
    unfold clL at hz
    rw [List.mem_map] at hz
    obtain ⟨r, hr, e⟩ := hz
    have h1 := h.rz.ids r (List.mem_filter.1 hr).1
    have h2 := h.rz.sml
    subst e
    exact ⟨by omega, by omega⟩)
  rw [e1] at hII
  exact ⟨q, _, d, by rw [e1], hII, hbw⟩
end
end Go.Proofs.Yteapkfnklbhdfaa

/- alike: both sets answer the same. -/
namespace Go.Proofs.Yteapkfnklbhdfaa
open Go.RowKit Go.Maps
set_option linter.unusedVariables false

theorem below_spoil {w w' w'' : World} {n : Nat} (hn : n ≤ w.heap.size) (hb : Below n w w') {p : Option Addr} (hf : Frame (fun k => blkOf p = some k) w' w'') (hg : ∀ g, blkOf p = some g → n ≤ g) : Below n w w'' :=
  hb.trans (hf.below (Nat.le_trans hn hb.size) hg)
theorem one_ii (w : World) (z : Int) (hz : I64 z) : II (w.alloc (.cells #[.int .i64 z] 3)) (some ⟨w.heap.size, 0, none⟩) 1 [z] :=
  ⟨rfl, by omega, (fun x hx => by simp only [List.mem_singleton] at hx; subst hx; exact hz), fun _ => ⟨w.heap.size, 0, rfl, fun i hi => by
    obtain rfl : i = 0 := by omega
    rw [cell_of_row _ _ 0 _ 3 _ (at_new rfl)]; rfl⟩⟩
theorem own_cells {B : Nat} {w : World} {g n cap : Nat} {xs : List Int} (h : Own B w g n cap xs) : ∃ cs, w.heap[g]? = some (.cells cs 5 (0, 0)) := by
  rcases h.2 with ⟨e, _⟩ | ⟨g', cap', cur, e, hB, hg, hc⟩
  · cases e
  · injection e with e _ _
    injection e with e
    injection e with e _ _
    subst e
    exact ⟨_, hg⟩

set_option maxRecDepth 100000 in
set_option maxHeartbeats 4000000 in
theorem alike_ok {B : Nat} {w : World} {a mp mb x last : Nat} {P L : List Pv} {K : Int → Option Value} {lv : Value} (h : Bth B w a mp mb x last P K lv L) :
    Calls Try.prog 11 #[.pointer (some ⟨a, 0, none⟩), .pointer (some ⟨x, 0, none⟩), .int .i64 5] w fun e w' => e = .returned (.bool true) ∧ Below w.heap.size w w' := by
  have hl1 := last_ok h.ps
  have hl2 := rlast_ok h.rz
  have hb1 := blocks_ok h.ps
  have H : Hid _ := h
  clear h
  go_enter Try.func11, Try.ntmps11
  go_wp2_with fail
  refine same_at hl1 ?_
  go_wp2_with fail
  refine same_at hl2 ?_
  clear hl1 hl2
  go_wp2_with fail
  refine hb1.mono ?_
  rintro _ w1 ⟨p1, c1, rfl, hI1, _, _, hbw1⟩
  have hb2 := (H.out.on hbw1).rblocks
  clear hb1
  dsimp only
  go_wp2_with fail
  refine hb2.mono ?_
  rintro _ w2 ⟨q2, m2, d2, rfl, hI2, hbw2⟩
  dsimp only
  clear hb2
  have hie := ieq_ok (c := c1) (d := d2) (hI1.kept hbw2) hI2
  rw [beq_self_eq_true] at hie
  go_wp2_with fail
  refine below_at hie ?_
  intro w3 hbw3
  clear hie
  have hB3 : Below w.heap.size w w3 := (hbw1.trans (hbw2.mono hbw1.size)).trans (hbw3.mono (hbw1.trans (hbw2.mono hbw1.size)).size)
  clear hbw1 hbw2 hbw3 hI1 hI2
  dsimp only
  go_wp2_with fail
  have hbA := (Below.refl w3.heap.size w3).alloc (Nat.le_refl _) (.cells #[.int .u8 9] 5)
  have hBI : BI (w3.alloc (.cells #[.int .u8 9] 5)) (some ⟨w3.heap.size, 0, none⟩) 1 [9] := ⟨rfl, by omega, (fun i => by cases i with
    | zero => simp
    | succ i => simp), fun _ => ⟨w3.heap.size, 0, rfl, fun i hi => by
      obtain rfl : i = 0 := by omega
      rw [cell_of_row _ _ 0 _ 5 _ (at_new rfl)]; rfl⟩⟩
  refine (repeat_ok 9 (by omega) ⟨w3.heap.size, 0, none⟩ 1 _ hBI).mono ?_
  rintro _ w4 ⟨g4, rfl, hg4, hB4, hcs4, hb4⟩
  have hg4' : g4 < w4.heap.size := by obtain ⟨cs, hcs⟩ := hcs4; exact (Array.getElem?_eq_some_iff.1 hcs).1
  have HB4 : Hid (Below w.heap.size w w4) := hB3.trans ((hbA.trans (hb4.mono hbA.size)).mono hB3.size)
  clear hB3 hbA hBI hb4 hg4 hcs4
  generalize List.replicate 128 (9 : Int) = D9 at *
  dsimp only
  go_wp2_with fail
  go_loopw [37] (fun i wr => ∃ j : Nat, j ≤ 5 ∧ i = .int .i64 (j : Int) ∧ Below w.heap.size w wr ∧ BI wr (some ⟨g4, 0, none⟩) 128 D9 ∧ g4 < wr.heap.size) (fun i _ => 5 - (intOf i).toNat)
  case atStart => exact ⟨0, by omega, rfl, HB4.out, hB4, hg4'⟩
  case round =>
    clear hB4 hg4' HB4
    rename World => wo
    obtain ⟨j, hj, rfl, hbr, hD, hgr⟩ := hrel
    by_cases hlt : j < 5
    · have hjI : (j : Int) < 5 := by omega
      have hb64 : I64 (j : Int) := ⟨by omega, by omega⟩
      have hR := H.out.on hbr
      have ho1 := of2_ok hR.ps (j : Int) hb64
      have HR : Hid _ := hR
      have HBR : Hid _ := hbr
      have HD : Hid _ := And.intro hD hgr
      clear hR hbr hD hgr
      go_wp2_with fail
      refine ho1.mono ?_
      rintro _ w5 ⟨q5, m5, d5, rfl, hI5, hb5⟩
      have ho2 := (HR.out.on hb5).rof (j : Int)
      dsimp only
      clear ho1
      go_wp2_with fail
      refine ho2.mono ?_
      rintro _ w6 ⟨q6, m6, d6, rfl, hI6, hb6⟩
      clear ho2
      have hie := ieq_ok (c := d5) (d := d6) (hI5.kept hb6) hI6
      rw [beq_self_eq_true] at hie
      dsimp only
      go_wp2_with fail
      refine below_at hie ?_
      intro w7 hb7
      clear hie
      have hb57 : Below wo.heap.size wo w7 := (hb5.trans (hb6.mono hb5.size)).trans (hb7.mono (hb5.trans (hb6.mono hb5.size)).size)
      have hno := now_ok (HR.out.on hb57).ps (j : Int) hb64 (some ⟨g4, 0, none⟩) 128 D9 (HD.out.1.kept hb57)
      have H57 : Hid _ := hb57
      clear hb57 hb5 hb6 hb7 hI5 hI6
      dsimp only
      go_wp2_with fail
      refine hno.mono ?_
      rintro _ w8 ⟨g8, c8, rfl, hO8, hb8⟩
      clear hno
      have h58 : Below wo.heap.size wo w8 := H57.out.trans (hb8.mono H57.out.size)
      have hrn := (HR.out.on h58).rnow (j : Int) (some ⟨g4, 0, none⟩) 128 D9 (HD.out.1.kept h58)
      dsimp only
      go_wp2_with fail
      refine hrn.mono ?_
      rintro _ w9 ⟨q9, c9, rfl, hB9, hb9⟩
      clear hrn
      have hby := HR.out.byts (j : Int) HD.out.1.byt
      have hB8 : BI w9 (some ⟨g8, 0, none⟩) 128 _ := (hO8.bi (by omega) hby).kept hb9
      have hbe := beq_ok (c := c8) (d := c9) hB8 hB9
      rw [beq_self_eq_true] at hbe
      have hsp := spoil_ok (some ⟨g8, 0, none⟩) 128 c8 _ w9 hB8 (fun g _ hg => by
        cases hg
        obtain ⟨cs, hcs⟩ := own_cells hO8
        exact ⟨cs, by rw [hb9.block _ (Array.getElem?_eq_some_iff.1 hcs).1]; exact hcs⟩)
      have h59 : Below wo.heap.size wo w9 := h58.trans (hb9.mono h58.size)
      have hg8 : wo.heap.size ≤ g8 := Nat.le_trans H57.out.size hO8.spot.1
      have H59 : Hid _ := And.intro h59 hg8
      clear h59 h58 hg8 hB8 hB9 hO8 hb8 hb9 hby
      dsimp only
      go_wp2_with fail
      refine same_at hbe ?_
      clear hbe
      go_wp2_with fail
      refine hsp.mono ?_
      rintro _ w10 ⟨rfl, hF10⟩
      clear hsp
      have h10 : Below wo.heap.size wo w10 := below_spoil (Nat.le_refl _) H59.out.1 hF10 (fun g hg => by cases hg; exact H59.out.2)
      have hpl := plan2_ok (HR.out.on h10).ps (j : Int) hb64 (some ⟨g4, 0, none⟩) 128 D9 (HD.out.1.kept h10)
      have H10 : Hid _ := h10
      clear h10 hF10
      dsimp only
      go_wp2_with fail
      refine hpl.mono ?_
      rintro _ w11 ⟨ob, on, oc, ib, im, ic, rfl, hOB, hIB, _, _, hb11⟩
      clear hpl
      have h11 : Below wo.heap.size wo w11 := H10.out.trans (hb11.mono H10.out.size)
      have hrp := (HR.out.on h11).rplan (j : Int) (some ⟨g4, 0, none⟩) 128 D9 (HD.out.1.kept h11)
      dsimp only
      go_wp2_with fail
      refine hrp.mono ?_
      rintro _ w12 ⟨ob2, on2, oc2, ib2, im2, ic2, rfl, hOB2, hIB2, hb12⟩
      clear hrp
      have h12 : Below wo.heap.size wo w12 := h11.trans (hb12.mono h11.size)
      have hbe := beq_ok (c := oc) (d := oc2) (hOB.kept hb12) hOB2
      have hie := ieq_ok (c := ic) (d := ic2) (hIB.kept hb12) hIB2
      rw [beq_self_eq_true] at hbe hie
      have H12 : Hid _ := h12
      clear h11 h12 hb11 hb12 hOB hIB hOB2 hIB2 H57 H59 H10
      dsimp only
      go_wp2_with fail
      refine same_at hbe ?_
      clear hbe
      go_wp2_with fail
      refine below_at hie ?_
      intro w13 hb13
      clear hie
      have h13 : Below wo.heap.size wo w13 := H12.out.trans (hb13.mono H12.out.size)
      have ho3 := (HR.out.on h13).rof (j : Int)
      have H13 : Hid _ := h13
      clear h13 hb13 H12
      dsimp only
      go_wp2_with fail
      refine ho3.mono ?_
      rintro _ w14 ⟨q14, m14, d14, rfl, hI14, hb14⟩
      clear ho3
      have h14 : Below wo.heap.size wo w14 := H13.out.trans (hb14.mono H13.out.size)
      have hq14 : m14 = (idsOf P (j : Int)).length := hI14.len.symm
      have hm14 := HR.out.idl (j : Int)
      have HF : Hid (∀ z ∈ idsOf P (j : Int), ∃ p0, fP P z = some p0 ∧ p0 ∈ P) := fun z hz => by
        rw [idsOf_eq, List.mem_map] at hz
        obtain ⟨p, hp, e⟩ := hz
        exact ⟨p, by rw [← e]; exact fP_mem HR.out.gd.srt (mem_ofB.1 hp).1, (mem_ofB.1 hp).1⟩
      generalize idsOf P (j : Int) = I0 at *
      subst hq14
      dsimp only
      go_wp2_with fail
      go_loopw [108] (fun i wz => ∃ k : Nat, k ≤ I0.length ∧ i = .int .i64 (k : Int) ∧ Below wo.heap.size wo wz ∧ II wz q14 I0.length I0) (fun i _ => I0.length - (intOf i).toNat)
      case atStart => exact ⟨0, by omega, rfl, h14, hI14⟩
      case round =>
        clear h14 hI14 hb14 H13
        obtain ⟨k, hk, rfl, hbz, hIz⟩ := hrel
        by_cases hkl : k < I0.length
        · obtain ⟨b1, o1, rfl, hc1⟩ := hIz.cells (by omega)
          have e1 := hc1 k hkl
          have hz64 := hIz.fitAt k
          have hzm : I0.getD k 0 ∈ I0 := by
            rw [List.getD_eq_getElem?_getD, List.getElem?_eq_getElem hkl]; exact List.getElem_mem _
          obtain ⟨p0, hf0, hpm0⟩ := HF.out _ hzm
          have hkI : (k : Int) < (I0.length : Int) := by omega
          have hk0 : (0 : Int) ≤ (k : Int) := by omega
          have HI : Hid _ := hIz
          clear hc1 hzm hIz
          generalize I0.getD k 0 = z at *
          have hR := HR.out.on hbz
          have hid0 := hR.ps.ids p0 hpm0
          have hget := get_ok hR.ps z hz64 p0 hf0 (hR.gd.ndl hpm0 (by have := hR.ps.sml; omega))
          have HBZ : Hid _ := hbz
          clear hbz hR
          go_wp2_with fail
          refine hget.mono ?_
          rintro _ w15 ⟨g15, c15, q15, d15, rfl, hO15, hI15, _, _, hb15⟩
          clear hget
          dsimp only
          go_wp2_with fail
          have hbA := (Below.refl w15.heap.size w15).alloc (Nat.le_refl _) (.cells #[.int .i64 (p0.id : Int), .int .i64 (p0.blk : Int), .int .i64 (p0.off : Int), .slice (some ⟨g15, 0, none⟩) p0.bs.length c15, .slice q15 (ndOf P p0).length d15] 44)
          have hu := at_new (w := w15) (o := .cells #[.int .i64 (p0.id : Int), .int .i64 (p0.blk : Int), .int .i64 (p0.off : Int), .slice (some ⟨g15, 0, none⟩) p0.bs.length c15, .slice q15 (ndOf P p0).length d15] 44) rfl
          generalize w15.alloc (.cells #[.int .i64 (p0.id : Int), .int .i64 (p0.blk : Int), .int .i64 (p0.off : Int), .slice (some ⟨g15, 0, none⟩) p0.bs.length c15, .slice q15 (ndOf P p0).length d15] 44) = w16 at *
          have h16 : Below wo.heap.size wo w16 := HBZ.out.trans ((hb15.trans (hbA.mono hb15.size)).mono HBZ.out.size)
          have hrg := (HR.out.on h16).rget z p0 hf0
          refine hrg.mono ?_
          rintro _ w17 ⟨g17, c17, q17, m17, d17, rfl, hB17, hI17, hb17⟩
          clear hrg
          have hbV := (Below.refl w17.heap.size w17).alloc (Nat.le_refl _) (.cells #[.int .i64 (p0.id : Int), .int .i64 (p0.blk : Int), .int .i64 (p0.off : Int), .slice (some ⟨g17, 0, none⟩) p0.bs.length c17, .slice q17 m17 d17] 44)
          have hb16V : Below w16.heap.size w16 (w17.alloc (.cells #[.int .i64 (p0.id : Int), .int .i64 (p0.blk : Int), .int .i64 (p0.off : Int), .slice (some ⟨g17, 0, none⟩) p0.bs.length c17, .slice q17 m17 d17] 44)) := hb17.trans (hbV.mono hb17.size)
          have huV := (hb16V.block _ (Array.getElem?_eq_some_iff.1 hu).1).trans hu
          have y0 : (w17.alloc (.cells #[.int .i64 (p0.id : Int), .int .i64 (p0.blk : Int), .int .i64 (p0.off : Int), .slice (some ⟨g17, 0, none⟩) p0.bs.length c17, .slice q17 m17 d17] 44)).cell? ⟨w15.heap.size, 0, none⟩ = some (.int .i64 (p0.id : Int)) := cell_of_row _ _ 0 _ 44 _ huV
          have y1 : (w17.alloc (.cells #[.int .i64 (p0.id : Int), .int .i64 (p0.blk : Int), .int .i64 (p0.off : Int), .slice (some ⟨g17, 0, none⟩) p0.bs.length c17, .slice q17 m17 d17] 44)).cell? ⟨w15.heap.size, 1, none⟩ = some (.int .i64 (p0.blk : Int)) := cell_of_row _ _ 1 _ 44 _ huV
          have y2 : (w17.alloc (.cells #[.int .i64 (p0.id : Int), .int .i64 (p0.blk : Int), .int .i64 (p0.off : Int), .slice (some ⟨g17, 0, none⟩) p0.bs.length c17, .slice q17 m17 d17] 44)).cell? ⟨w15.heap.size, 2, none⟩ = some (.int .i64 (p0.off : Int)) := cell_of_row _ _ 2 _ 44 _ huV
          have y3 : (w17.alloc (.cells #[.int .i64 (p0.id : Int), .int .i64 (p0.blk : Int), .int .i64 (p0.off : Int), .slice (some ⟨g17, 0, none⟩) p0.bs.length c17, .slice q17 m17 d17] 44)).cell? ⟨w15.heap.size, 3, none⟩ = some (.slice (some ⟨g15, 0, none⟩) p0.bs.length c15) := cell_of_row _ _ 3 _ 44 _ huV
          have y4 : (w17.alloc (.cells #[.int .i64 (p0.id : Int), .int .i64 (p0.blk : Int), .int .i64 (p0.off : Int), .slice (some ⟨g17, 0, none⟩) p0.bs.length c17, .slice q17 m17 d17] 44)).cell? ⟨w15.heap.size, 4, none⟩ = some (.slice q15 (ndOf P p0).length d15) := cell_of_row _ _ 4 _ 44 _ huV
          have hbyt0 := (HR.out.ps.byt p0 hpm0).1.byt
          have hb15V : Below w15.heap.size w15 (w17.alloc (.cells #[.int .i64 (p0.id : Int), .int .i64 (p0.blk : Int), .int .i64 (p0.off : Int), .slice (some ⟨g17, 0, none⟩) p0.bs.length c17, .slice q17 m17 d17] 44)) := hbA.trans (hb16V.mono hbA.size)
          have hsa := samePatch_ok (p0.id : Int) (p0.blk : Int) (p0.off : Int) (some ⟨g15, 0, none⟩) (some ⟨g17, 0, none⟩) q15 q17 p0.bs.length p0.bs.length (ndOf P p0).length m17 c15 c17 d15 d17 p0.bs (ndOf P p0) (w17.alloc (.cells #[.int .i64 (p0.id : Int), .int .i64 (p0.blk : Int), .int .i64 (p0.off : Int), .slice (some ⟨g17, 0, none⟩) p0.bs.length c17, .slice q17 m17 d17] 44)) ((hO15.bi (by omega) hbyt0).kept hb15V) (hB17.kept hbV) (hI15.kept hb15V) (hI17.kept hbV)
          have hV : Below wr.heap.size wr (w17.alloc (.cells #[.int .i64 (p0.id : Int), .int .i64 (p0.blk : Int), .int .i64 (p0.off : Int), .slice (some ⟨g17, 0, none⟩) p0.bs.length c17, .slice q17 m17 d17] 44)) := hb15.trans (hb15V.mono hb15.size)
          have HO : Hid _ := And.intro hO15 (And.intro hb15V (And.intro hbyt0 hb15.size))
          have HV : Hid _ := And.intro hV huV
          clear hbV hb16V huV hb17 hB17 hI17 hI15 hb15 hbA hu h16 hO15 hb15V hbyt0 hV
          dsimp only
          go_wp2_with fail
          refine below_at hsa ?_
          intro w19 hb19
          clear hsa y0 y1 y2 y3 y4
          dsimp only
          go_wp2_with fail
          have hbC := (Below.refl w19.heap.size w19).alloc (Nat.le_refl _) (.cells #[.int .i64 z] 3)
          have hIC := one_ii w19 z hz64
          have h19 : Below wo.heap.size wo w19 := HBZ.out.trans ((HV.out.1.trans (hb19.mono HV.out.1.size)).mono HBZ.out.size)
          have hcl := closure_ok ((HR.out.on h19).on hbC).ps (some ⟨w19.heap.size, 0, none⟩) 1 1 [z] hIC
          refine hcl.mono ?_
          rintro _ w20 ⟨q20, c20, O, rfl, hI20, _, hO20, _, hb20⟩
          clear hcl
          dsimp only
          go_wp2_with fail
          have hbE := (Below.refl w20.heap.size w20).alloc (Nat.le_refl _) (.cells #[.int .i64 z] 3)
          have hIE := one_ii w20 z hz64
          have h20 : Below w19.heap.size w19 w20 := hbC.trans (hb20.mono hbC.size)
          have hrc := (((HR.out.on h19).on h20).on hbE).clo (some ⟨w20.heap.size, 0, none⟩) 1 1 [z] hIE (by unfold Sm; omega) O hO20
          refine hrc.mono ?_
          rintro _ w21 ⟨q21, m21, d21, rfl, hI21, hb21⟩
          clear hrc
          have h20_21 : Below w20.heap.size w20 w21 := hbE.trans (hb21.mono hbE.size)
          have hie := ieq_ok (c := c20) (d := d21) (hI20.kept h20_21) hI21
          rw [beq_self_eq_true] at hie
          have h19_21 : Below w19.heap.size w19 w21 := h20.trans (h20_21.mono h20.size)
          have H21 : Hid _ := hb19.trans (h19_21.mono hb19.size)
          clear hbC hIC h19 hbE hIE h20 hI20 hI21 hb20 hb21 h20_21 h19_21 hb19 hO20
          dsimp only
          go_wp2_with fail
          refine below_at hie ?_
          intro w22 hb22
          clear hie
          have hV22 := H21.out.trans (hb22.mono H21.out.size)
          have hu22 := (hV22.block _ (Array.getElem?_eq_some_iff.1 HV.out.2).1).trans HV.out.2
          have y3 : w22.cell? ⟨w15.heap.size, 3, none⟩ = some (.slice (some ⟨g15, 0, none⟩) p0.bs.length c15) := cell_of_row _ _ 3 _ 44 _ hu22
          have h1522 : Below w15.heap.size w15 w22 := HO.out.2.1.trans (hV22.mono HO.out.2.1.size)
          have hsp := spoil_ok (some ⟨g15, 0, none⟩) p0.bs.length c15 p0.bs w22 ((HO.out.1.bi (by omega) HO.out.2.2.1).kept h1522) (fun g _ hg => by
            cases hg
            obtain ⟨cs, hcs⟩ := own_cells HO.out.1
            exact ⟨cs, by rw [h1522.block _ (Array.getElem?_eq_some_iff.1 hcs).1]; exact hcs⟩)
          have hr22 : Below wr.heap.size wr w22 := HV.out.1.trans (hV22.mono HV.out.1.size)
          have H22 : Hid _ := hr22
          clear hV22 hu22 h1522 hr22 H21 hb22
          dsimp only
          go_wp2_with fail
          refine hsp.mono ?_
          rintro _ w23 ⟨rfl, hF23⟩
          clear hsp y3
          have h23 : Below wr.heap.size wr w23 := below_spoil (Nat.le_refl _) H22.out hF23 (fun g hg => by cases hg; exact HO.out.1.spot.1)
          have hfin : Below wo.heap.size wo w23 := HBZ.out.trans (h23.mono HBZ.out.size)
          have hIf := HI.out.kept h23
          clear hF23 h23 e1
          dsimp only
          go_wp2_with fail
          go_roundw
          case rel => exact ⟨k + 1, by omega, by go_num, hfin, hIf⟩
          case measure => simp [intOf]; omega
        · obtain rfl : k = I0.length := by omega
          have hnt : ¬ (I0.length : Int) < (I0.length : Int) := by omega
          have hfin : Below w.heap.size w wr := HBR.out.trans (hbz.mono HBR.out.size)
          have hDf := HD.out.1.kept hbz
          have hgf : g4 < wr.heap.size := Nat.lt_of_lt_of_le HD.out.2 hbz.size
          clear hIz hbz HF HR
          go_wp2_with fail
          go_roundw
          case rel => exact ⟨j + 1, by omega, by go_num, hfin, hDf, hgf⟩
          case measure => simp [intOf]; omega
    · obtain rfl : j = 5 := by omega
      go_wp2_with fail
      go_ret
      exact ⟨rfl, hbr⟩
end Go.Proofs.Yteapkfnklbhdfaa

/- PatchLives: whatever is done to a set, it answers and has what the document says. -/
namespace Go.Proofs.Yteapkfnklbhdfaa
open Go.RowKit Go.Maps
set_option linter.unusedVariables false

theorem BI.below {w : World} {p : Option Addr} {n : Nat} {xs : List Int} (h : BI w p n xs) (h0 : 0 < n) : ∀ g, blkOf p = some g → g < w.heap.size := fun g hg => by
  obtain ⟨b, o, rfl, hc⟩ := h.cells h0
  have e : b = g := Option.some.inj hg
  subst e
  exact lt_of_cell (hc 0 h0)
theorem II.below {w : World} {p : Option Addr} {n : Nat} {xs : List Int} (h : II w p n xs) (h0 : 0 < n) : ∀ g, blkOf p = some g → g < w.heap.size := fun g hg => by
  obtain ⟨b, o, rfl, hc⟩ := h.cells h0
  have e : b = g := Option.some.inj hg
  subst e
  exact lt_of_cell (hc 0 h0)

section
variable {B : Nat} {w : World} {a mp mb x last : Nat} {D : Nat → Prop}
theorem Jt.bth (h : Jt B w a mp mb x last D) : ∃ P K lv L, Bth B w a mp mb x last P K lv L := by
  obtain ⟨⟨P, K, lv, L, h1, h2, h3, h4, _⟩, _⟩ := h
  exact ⟨P, K, lv, L, h1, h2, h3, h4⟩
theorem Jt.alike (h : Jt B w a mp mb x last D) : Calls Try.prog 11 #[.pointer (some ⟨a, 0, none⟩), .pointer (some ⟨x, 0, none⟩), .int .i64 5] w fun e w' => e = .returned (.bool true) ∧ Below w.heap.size w w' := by
  obtain ⟨P, K, lv, L, h⟩ := h.bth
  exact alike_ok h
theorem Jt.last1 (h : Jt B w a mp mb x last D) : Calls Try.prog 15 #[.pointer (some ⟨a, 0, none⟩)] w fun e w' => e = .returned (.int .i64 (last : Int)) ∧ w' = w := by
  obtain ⟨P, K, lv, L, h⟩ := h.bth
  exact last_ok h.ps
theorem Jt.last2 (h : Jt B w a mp mb x last D) : Calls Try.prog 12 #[.pointer (some ⟨x, 0, none⟩)] w fun e w' => e = .returned (.int .i64 (last : Int)) ∧ w' = w := by
  obtain ⟨P, K, lv, L, h⟩ := h.bth
  exact rlast_ok h.rz
theorem Bth.dn {P L : List Pv} {K : Int → Option Value} {lv : Value} (h : Bth B w a mp mb x last P K lv L) (k : Int) : dn last L k = dn last P k := by
  unfold Go.Proofs.Yteapkfnklbhdfaa.dn
  first | rw [rel_some h.rel] | (have := rel_some h.rel k; simp_all)
theorem Jt.done1 (h : Jt B w a mp mb x last D) : ∃ f : Int → Bool, (∀ w', Below w.heap.size w w' → ∀ k, I64 k → Calls Try.prog 13 #[.pointer (some ⟨a, 0, none⟩), .int .i64 k] w' fun e w'' => e = .returned (.bool (f k)) ∧ Below w'.heap.size w' w'') ∧
    ∀ w', Below w.heap.size w w' → ∀ k, I64 k → Calls Try.prog 14 #[.pointer (some ⟨x, 0, none⟩), .int .i64 k] w' fun e w'' => e = .returned (.bool (f k)) ∧ Below w'.heap.size w' w'' := by
  obtain ⟨P, K, lv, L, h⟩ := h.bth
  refine ⟨dn last P, fun w' hb k hk => isDone_ok (h.on hb).ps k hk, fun w' hb k hk => ?_⟩
  rw [← h.dn k]
  exact risDone_ok (h.on hb).rz k hk
end

theorem jt_new {w w1 : World} {a mp mb : Nat} (hP : PS w.heap.size w1 a mp mb 0 [] (fun _ => none)) (hb : Below w.heap.size w w1) :
    Jt w.heap.size (w1.alloc (.cells #[.slice none 0 0, .int .i64 0] 28)) a mp mb w1.heap.size 0 (fun k => w.heap.size ≤ k ∧ k < (w1.alloc (.cells #[.slice none 0 0, .int .i64 0] 28)).heap.size) := by
  have hA : Below w1.heap.size w1 (w1.alloc (.cells #[.slice none 0 0, .int .i64 0] 28)) := (Below.refl _ _).alloc (Nat.le_refl _) _
  have hsz : (w1.alloc (.cells #[.slice none 0 0, .int .i64 0] 28)).heap.size = w1.heap.size + 1 := by simp
  have hR : RZ w.heap.size (w1.alloc (.cells #[.slice none 0 0, .int .i64 0] 28)) w1.heap.size (.slice none 0 0) 0 [] := by
    refine ⟨at_new rfl, ⟨rfl, .inl ⟨rfl, rfl⟩⟩, (fun p hp => by cases hp), (fun p hp => by cases hp), (fun p hp => by cases hp), (fun p hp => by cases hp), List.Pairwise.nil, (fun p hp => by cases hp), by omega, hb.size⟩
  refine ⟨⟨[], _, _, [], hP.kept hA, hR, .nil, ⟨List.Pairwise.nil, (fun p hp => by cases hp), (fun p hp => by cases hp), (fun p hp => by cases hp)⟩, fun k hk hr => ?_, fun k hk => ?_, fun k hk => ?_⟩, fun k hk => hk⟩
  · have h1 := hP.dm_lt hk
    rcases hr with rfl | hr | ⟨p, hp, _⟩
    · omega
    · cases hr
    · cases hp
  · refine ⟨?_, by have := hP.dm_lt hk; omega⟩
    have := hP.base
    rcases hk with rfl | rfl | rfl | ⟨b, v, hk, _⟩ | ⟨p, hp, _⟩
    · omega
    · omega
    · omega
    · cases hk
    · cases hp
  · rcases hk with rfl | hk | ⟨p, hp, _⟩
    · exact ⟨hb.size, by omega⟩
    · cases hk
    · cases hp

set_option maxRecDepth 100000 in
set_option maxHeartbeats 4000000 in
theorem patchLives_walk (p : Option Addr) (n c : Nat) (D : List Dv) (w : World) (hD : DI w p n D) :
    Calls Try.prog 3 #[.slice p n c] w fun e w' => e = .returned (.bool true) ∧ Below w.heap.size w w' := by
  have hnew := new_ok w
  have hDl := hD.len
  have hDb := hD.big
  go_enter Try.func3, Try.ntmps3
  go_wp2_with fail
  refine hnew.mono ?_
  rintro _ w1 ⟨a, mp, mb, rfl, hP1, hb1⟩
  clear hnew
  have hJ0 := jt_new hP1 hb1
  have hb2 : Below w.heap.size w (w1.alloc (.cells #[.slice none 0 0, .int .i64 0] 28)) := hb1.alloc hb1.size _
  have HJ0 : Hid _ := And.intro hJ0 hb2
  clear hJ0 hb2 hP1 hb1
  dsimp only
  go_wp2_with fail
  generalize w1.heap.size = x at *
  go_loopw [13] (fun i wr => ∃ (j last : Nat) (Dm : Nat → Prop), j ≤ n ∧ j ≤ 61 ∧ i = .int .i64 (j : Int) ∧ last ≤ j ∧ Jt w.heap.size wr a mp mb x last Dm ∧ Below w.heap.size w wr) (fun i _ => n - (intOf i).toNat)
  case atStart => exact ⟨0, 0, _, by omega, by omega, rfl, by omega, HJ0.out.1, HJ0.out.2⟩
  case round =>
    clear HJ0
    obtain ⟨j, last, Dm, hj, hj61, rfl, hlast, hJ, hbr⟩ := hrel
    by_cases hlt : j < n
    · skip
      obtain ⟨b1, o1, rfl, hc1⟩ := hD.cells (by omega)
      obtain ⟨dv, hd⟩ : ∃ d, D[j]? = some d := ⟨_, List.getElem?_eq_getElem (by omega)⟩
      have hAt := hc1 j dv hd
      obtain ⟨c0, c1, c2, ⟨bp, bn, bc, c3, hbn, hbc, hBI⟩, ⟨ip, im, ic, c4, him, hic, him8, hII⟩, r0, r1, r2⟩ := hAt
      have hlt0 := lt_of_cell c0
      have hk : ∀ i, wr.cell? ⟨b1, i, none⟩ = w.cell? ⟨b1, i, none⟩ := fun i => hbr.cell (p := ⟨b1, i, none⟩) hlt0
      rw [← hk] at c0 c1 c2 c3 c4
      clear hk hlt0
      have hjI : (j : Int) < (n : Int) := by omega
      have hj0 : (0 : Int) ≤ (j : Int) := by omega
      obtain ⟨cs, hcs⟩ : ∃ cs : Array Value, cs = #[.int .i64 dv.op, .int .i64 dv.blk, .int .i64 dv.off, .slice bp bn bc, .slice ip im ic] := ⟨_, rfl⟩
      have hone : (#[.int .i64 dv.op, .int .i64 dv.blk, .int .i64 dv.off, .slice bp bn bc, .slice ip im ic] : Array Value).all (·.oneCell') = true := by simp [Value.oneCell']
      have hr1 := setRow_heap (wr.alloc (.cells #[.int .i64 0, .int .i64 0, .int .i64 0, .slice none 0 0, .slice none 0 0] 32)) wr.heap.size _ cs 32 (0, 0) (at_new rfl)
      have hb1 := below_setRow ((Below.refl wr.heap.size wr).alloc (Nat.le_refl _) (.cells #[.int .i64 0, .int .i64 0, .int .i64 0, .slice none 0 0, .slice none 0 0] 32)) wr.heap.size (Nat.le_refl _) cs
      obtain ⟨W1, hW1⟩ : ∃ W1, (wr.alloc (.cells #[.int .i64 0, .int .i64 0, .int .i64 0, .slice none 0 0, .slice none 0 0] 32)).setRow wr.heap.size cs = W1 := ⟨_, rfl⟩
      rw [hW1] at hr1 hb1
      have x0 : W1.cell? ⟨wr.heap.size, 0, none⟩ = some (.int .i64 dv.op) := by subst hcs; rw [cell_of_row _ _ _ _ 32 _ hr1]; rfl
      have x1 : W1.cell? ⟨wr.heap.size, 1, none⟩ = some (.int .i64 dv.blk) := by subst hcs; rw [cell_of_row _ _ _ _ 32 _ hr1]; rfl
      have x2 : W1.cell? ⟨wr.heap.size, 2, none⟩ = some (.int .i64 dv.off) := by subst hcs; rw [cell_of_row _ _ _ _ 32 _ hr1]; rfl
      have x3 : W1.cell? ⟨wr.heap.size, 3, none⟩ = some (.slice bp bn bc) := by subst hcs; rw [cell_of_row _ _ _ _ 32 _ hr1]; rfl
      have x4 : W1.cell? ⟨wr.heap.size, 4, none⟩ = some (.slice ip im ic) := by subst hcs; rw [cell_of_row _ _ _ _ 32 _ hr1]; rfl
      have hbw1 : Below w.heap.size w W1 := hbr.trans (hb1.mono hbr.size)
      have hJ1 := hJ.kept hb1
      by_cases hj60 : j ≤ 60
      · have hj6 : ¬ (60 : Int) < (j : Int) := by omega
        have hdo := does_ok hJ1 hbw1.size (by omega) dv.op dv.blk dv.off r1 r2 r0 bp bn bc dv.bytes (hBI.kept hbw1) ip im ic dv.ids (hII.kept hbw1) him8 hBI.below hII.below
        have HL : Hid _ := And.intro hbw1 hJ1.lo
        clear hc1 hd hr1 hBI hII hbr hJ hJ1 hbw1 hb1
        go_wp2_with (first
          | (refine wpList_store_row rfl 32 _ _ rfl wr.heap.size cs rfl (by rw [hcs]; rfl) 32 _ (at_new rfl) (by rw [hcs]; exact info32) (by rw [hcs]; rfl) (by rw [hcs]; exact hone) ?_; rw [hW1]))
        refine hdo.mono ?_
        rintro _ w2 ⟨rfl, hF2, l', hl', hJ2⟩
        clear hdo
        have hal := hJ2.alike
        have hbw2 : Below w.heap.size w w2 := HL.out.1.trans (hF2.below HL.out.1.size (fun k hk => (HL.out.2 k hk).1))
        have HJ2 : Hid _ := And.intro hJ2 hbw2
        clear hJ2 hF2 hbw2
        dsimp only
        go_wp2_with fail
        refine below_at hal ?_
        intro w3 hb3
        clear hal
        have hfin : Below w.heap.size w w3 := HJ2.out.2.trans (hb3.mono HJ2.out.2.size)
        have hJf := HJ2.out.1.kept hb3
        clear hb3 x0 x1 x2 x3 x4 c0 c1 c2 c3 c4
        dsimp only
        go_wp2_with fail
        go_roundw
        case rel => exact ⟨j + 1, l', _, by omega, by omega, by go_num, by omega, hJf, hfin⟩
        case measure => simp [intOf]; omega
      · have hj6 : (60 : Int) < (j : Int) := by omega
        have hla := hJ1.last2
        have HJX : Hid _ := hJ1
        have HBX : Hid _ := hbw1
        clear hc1 hd hr1 hBI hII hbr hJ hJ1 hbw1 hb1 x0 x1 x2 x3 x4
        go_wp2_with (first
          | (refine wpList_store_row rfl 32 _ _ rfl wr.heap.size cs rfl (by rw [hcs]; rfl) 32 _ (at_new rfl) (by rw [hcs]; exact info32) (by rw [hcs]; rfl) (by rw [hcs]; exact hone) ?_; rw [hW1]))
        refine same_at hla ?_
        clear hla
        obtain ⟨f, hf1, hf2⟩ := HJX.out.done1
        have hl61 : last ≤ 61 := by omega
        have HF : Hid _ := And.intro hf1 hf2
        clear hf1 hf2
        go_wp2_with fail
        go_loopw [35] (fun i wy => ∃ k : Nat, k ≤ last + 2 ∧ i = .int .i64 (k : Int) ∧ Below W1.heap.size W1 wy) (fun i _ => last + 2 - (intOf i).toNat)
        case atStart => exact ⟨0, by omega, rfl, Below.refl _ _⟩
        case round =>
          obtain ⟨k, hk, rfl, hbk⟩ := hrel
          by_cases hkl : k < last + 2
          · have hkI : (k : Int) < (last : Int) + 2 := by omega
            have hd1 := HF.out.1 _ hbk (k : Int) ⟨by omega, by omega⟩
            have HBK : Hid _ := hbk
            clear hbk
            go_wp2_with fail
            refine below_at hd1 ?_
            intro w5 hb5
            clear hd1
            have hbk5 := HBK.out.trans (hb5.mono HBK.out.size)
            have hd2 := HF.out.2 _ hbk5 (k : Int) ⟨by omega, by omega⟩
            have H5 : Hid _ := hbk5
            clear hbk5 hb5
            dsimp only
            go_wp2_with fail
            refine below_at hd2 ?_
            intro w6 hb6
            clear hd2
            have hbk6 := H5.out.trans (hb6.mono H5.out.size)
            clear hb6
            dsimp only
            go_wp2_with fail
            go_roundw
            case rel => exact ⟨k + 1, by omega, by go_num, hbk6⟩
            case measure => simp [intOf]; omega
          · obtain rfl : k = last + 2 := by omega
            have hnt : ¬ ((last + 2 : Nat) : Int) < (last : Int) + 2 := by omega
            have hJk := HJX.out.kept hbk
            have hl1 := hJk.last1
            have hl2 := hJk.last2
            have hfin := HBX.out.trans (hbk.mono HBX.out.size)
            clear hJk hbk
            go_wp2_with fail
            refine same_at hl1 ?_
            clear hl1
            dsimp only
            go_wp2_with fail
            refine same_at hl2 ?_
            clear hl2
            dsimp only
            go_wp2_with fail
            go_ret
            exact ⟨by simp, hfin⟩
    · obtain rfl : j = n := by omega
      have hnt : ¬ (j : Int) < (j : Int) := by omega
      have hla := hJ.last2
      have HJX : Hid _ := hJ
      have HBX : Hid _ := hbr
      clear hJ hbr
      rename World => wo
      go_wp2_with fail
      refine same_at hla ?_
      clear hla
      obtain ⟨f, hf1, hf2⟩ := HJX.out.done1
      have hl61 : last ≤ 61 := by omega
      have HF : Hid _ := And.intro hf1 hf2
      clear hf1 hf2
      go_wp2_with fail
      go_loopw [35] (fun i wy => ∃ k : Nat, k ≤ last + 2 ∧ i = .int .i64 (k : Int) ∧ Below wo.heap.size wo wy) (fun i _ => last + 2 - (intOf i).toNat)
      case atStart => exact ⟨0, by omega, rfl, Below.refl _ _⟩
      case round =>
        obtain ⟨k, hk, rfl, hbk⟩ := hrel
        by_cases hkl : k < last + 2
        · have hkI : (k : Int) < (last : Int) + 2 := by omega
          have hd1 := HF.out.1 _ hbk (k : Int) ⟨by omega, by omega⟩
          have HBK : Hid _ := hbk
          clear hbk
          go_wp2_with fail
          refine below_at hd1 ?_
          intro w5 hb5
          clear hd1
          have hbk5 := HBK.out.trans (hb5.mono HBK.out.size)
          have hd2 := HF.out.2 _ hbk5 (k : Int) ⟨by omega, by omega⟩
          have H5 : Hid _ := hbk5
          clear hbk5 hb5
          dsimp only
          go_wp2_with fail
          refine below_at hd2 ?_
          intro w6 hb6
          clear hd2
          have hbk6 := H5.out.trans (hb6.mono H5.out.size)
          clear hb6
          dsimp only
          go_wp2_with fail
          go_roundw
          case rel => exact ⟨k + 1, by omega, by go_num, hbk6⟩
          case measure => simp [intOf]; omega
        · obtain rfl : k = last + 2 := by omega
          have hnt : ¬ ((last + 2 : Nat) : Int) < (last : Int) + 2 := by omega
          have hJk := HJX.out.kept hbk
          have hl1 := hJk.last1
          have hl2 := hJk.last2
          have hfin := HBX.out.trans (hbk.mono HBX.out.size)
          clear hJk hbk
          go_wp2_with fail
          refine same_at hl1 ?_
          clear hl1
          dsimp only
          go_wp2_with fail
          refine same_at hl2 ?_
          clear hl2
          dsimp only
          go_wp2_with fail
          go_ret
          exact ⟨by simp, hfin⟩
end Go.Proofs.Yteapkfnklbhdfaa

/- PatchAsks: single questions of any arguments. -/
namespace Go.Proofs.Yteapkfnklbhdfaa
open Go.RowKit Go.Maps
set_option linter.unusedVariables false

theorem bi_none (w : World) : BI w none 0 [] := ⟨rfl, by omega, (fun i => by simp), fun h => by omega⟩
theorem ii_none (w : World) : II w none 0 [] := ⟨rfl, by omega, (fun x hx => by cases hx), fun h => by omega⟩

section
variable {B : Nat} {w : World} {a mp mb x last : Nat} {P L : List Pv} {K : Int → Option Value} {lv : Value}

/-- What Now and Plan tell of any bytes. -/
def nwE (n : Nat) : Int := if n = 128 then 0 else 1
def nwB (P : List Pv) (b : Int) (n : Nat) (xs : List Int) : List Int := if n = 128 then ovrs (ofB P b) xs else []
def paE (P : List Pv) (b : Int) (n : Nat) (xs : List Int) : Int := if n = 128 then plE (plnOf P b xs) else 1
def paB (P : List Pv) (b : Int) (n : Nat) (xs : List Int) : List Int := if n = 128 then plB (plnOf P b xs) else []
def paI (P : List Pv) (b : Int) (n : Nat) (xs : List Int) : List Int := if n = 128 then (plnOf P b xs).1 else []

theorem Bth.now1 (h : Bth B w a mp mb x last P K lv L) (b : Int) (hb : I64 b) (p : Option Addr) (n c : Nat) (xs : List Int) (hx : BI w p n xs) :
    Calls Try.prog 16 #[.pointer (some ⟨a, 0, none⟩), .int .i64 b, .slice p n c] w fun e w' => ∃ q m d, e = .returned (.tuple #[.slice q m d, .int .i64 (nwE n)]) ∧ BI w' q m (nwB P b n xs) ∧ Below w.heap.size w w' := by
  unfold nwE nwB
  by_cases hn : n = 128
  · subst hn
    rw [if_pos rfl, if_pos rfl]
    refine (now_ok h.ps b hb p c xs hx).mono ?_
    rintro e w' ⟨g, cap, rfl, hO, hbw⟩
    exact ⟨_, _, _, rfl, hO.bi (by omega) (h.byts b hx.byt), hbw⟩
  · rw [if_neg hn, if_neg hn]
    refine (now_arg h.ps b p n c hn (by have := hx.big; omega)).mono ?_
    rintro e w' ⟨rfl, rfl⟩
    exact ⟨none, 0, 0, rfl, bi_none _, Below.refl _ _⟩
theorem Bth.now2 (h : Bth B w a mp mb x last P K lv L) (b : Int) (p : Option Addr) (n c : Nat) (xs : List Int) (hx : BI w p n xs) :
    Calls Try.prog 17 #[.pointer (some ⟨x, 0, none⟩), .int .i64 b, .slice p n c] w fun e w' => ∃ q m d, e = .returned (.tuple #[.slice q m d, .int .i64 (nwE n)]) ∧ BI w' q m (nwB P b n xs) ∧ Below w.heap.size w w' := by
  unfold nwE nwB
  by_cases hn : n = 128
  · subst hn
    rw [if_pos rfl, if_pos rfl]
    refine (h.rnow b p c xs hx).mono ?_
    rintro e w' ⟨q, d, rfl, hO, hbw⟩
    exact ⟨_, _, _, rfl, hO, hbw⟩
  · rw [if_neg hn, if_neg hn]
    refine (rnow_arg h.rz b p n c hn (by have := hx.big; omega)).mono ?_
    rintro e w' ⟨rfl, rfl⟩
    exact ⟨none, 0, 0, rfl, bi_none _, Below.refl _ _⟩
theorem Bth.plan1 (h : Bth B w a mp mb x last P K lv L) (b : Int) (hb : I64 b) (p : Option Addr) (n c : Nat) (xs : List Int) (hx : BI w p n xs) :
    Calls Try.prog 18 #[.pointer (some ⟨a, 0, none⟩), .int .i64 b, .slice p n c] w fun e w' => ∃ ob on oc ib im ic, e = .returned (.tuple #[.slice ob on oc, .slice ib im ic, .int .i64 (paE P b n xs)]) ∧ BI w' ob on (paB P b n xs) ∧ II w' ib im (paI P b n xs) ∧ Below w.heap.size w w' := by
  unfold paE paB paI
  by_cases hn : n = 128
  · subst hn
    rw [if_pos rfl, if_pos rfl, if_pos rfl]
    refine (plan2_ok h.ps b hb p c xs hx).mono ?_
    rintro e w' ⟨ob, on, oc, ib, im, ic, rfl, h1, h2, _, _, hbw⟩
    exact ⟨_, _, _, _, _, _, rfl, h1, h2, hbw⟩
  · rw [if_neg hn, if_neg hn, if_neg hn]
    refine (plan_arg h.ps b p n c hn).mono ?_
    rintro e w' ⟨rfl, hbw⟩
    exact ⟨none, 0, 0, none, 0, 0, rfl, bi_none _, ii_none _, hbw⟩
theorem Bth.plan2 (h : Bth B w a mp mb x last P K lv L) (b : Int) (p : Option Addr) (n c : Nat) (xs : List Int) (hx : BI w p n xs) :
    Calls Try.prog 19 #[.pointer (some ⟨x, 0, none⟩), .int .i64 b, .slice p n c] w fun e w' => ∃ ob on oc ib im ic, e = .returned (.tuple #[.slice ob on oc, .slice ib im ic, .int .i64 (paE P b n xs)]) ∧ BI w' ob on (paB P b n xs) ∧ II w' ib im (paI P b n xs) ∧ Below w.heap.size w w' := by
  unfold paE paB paI
  by_cases hn : n = 128
  · subst hn
    rw [if_pos rfl, if_pos rfl, if_pos rfl]
    refine (h.rplan b p c xs hx).mono ?_
    rintro e w' ⟨ob, on, oc, ib, im, ic, rfl, h1, h2, hbw⟩
    exact ⟨_, _, _, _, _, _, rfl, h1, h2, hbw⟩
  · rw [if_neg hn, if_neg hn, if_neg hn]
    refine (rplan_arg h.rz b p n c hn (by have := hx.big; omega)).mono ?_
    rintro e w' ⟨rfl, rfl⟩
    exact ⟨none, 0, 0, none, 0, 0, rfl, bi_none _, ii_none _, Below.refl _ _⟩

/-- What Get tells of any number: five parts and the error. -/
structure Gv where
  i : Int
  b : Int
  o : Int
  bs : List Int
  nd : List Int
  er : Int
def gvOf (P : List Pv) (k : Int) : Gv := match fP P k with
  | some p => ⟨p.id, p.blk, p.off, p.bs, ndOf P p, 0⟩
  | none => ⟨0, 0, 0, [], [], 70⟩
theorem Bth.get1 (h : Bth B w a mp mb x last P K lv L) (k : Int) (hk : I64 k) :
    Calls Try.prog 20 #[.pointer (some ⟨a, 0, none⟩), .int .i64 k] w fun e w' => ∃ p n c q m d, e = .returned (.tuple #[.agg #[.int .i64 (gvOf P k).i, .int .i64 (gvOf P k).b, .int .i64 (gvOf P k).o, .slice p n c, .slice q m d], .int .i64 (gvOf P k).er]) ∧ BI w' p n (gvOf P k).bs ∧ II w' q m (gvOf P k).nd ∧ Below w.heap.size w w' := by
  unfold gvOf
  cases hf : fP P k with
  | none =>
    refine (get_no h.ps k hk hf).mono ?_
    rintro e w' ⟨rfl, hbw⟩
    exact ⟨none, 0, 0, none, 0, 0, rfl, bi_none _, ii_none _, hbw⟩
  | some p =>
    obtain ⟨hpm, _⟩ := fP_some hf
    have hi := h.ps.ids p hpm
    have hby := (h.ps.byt p hpm).1.byt
    refine (get_ok h.ps k hk p hf (h.gd.ndl hpm (by have := h.ps.sml; omega))).mono ?_
    rintro e w' ⟨g, cap, q, c, rfl, hO, hI, _, _, hbw⟩
    exact ⟨_, _, _, _, _, _, rfl, hO.bi (by omega) hby, hI, hbw⟩
theorem Bth.get2 (h : Bth B w a mp mb x last P K lv L) (k : Int) :
    Calls Try.prog 21 #[.pointer (some ⟨x, 0, none⟩), .int .i64 k] w fun e w' => ∃ p n c q m d, e = .returned (.tuple #[.agg #[.int .i64 (gvOf P k).i, .int .i64 (gvOf P k).b, .int .i64 (gvOf P k).o, .slice p n c, .slice q m d], .int .i64 (gvOf P k).er]) ∧ BI w' p n (gvOf P k).bs ∧ II w' q m (gvOf P k).nd ∧ Below w.heap.size w w' := by
  unfold gvOf
  cases hf : fP P k with
  | none =>
    refine (rget_no h.rz k (by have := rel_some h.rel k; rw [hf] at this; cases h' : fP L k with
      | none => rfl
      | some r => rw [h'] at this; cases this)).mono ?_
    rintro e w' ⟨rfl, hbw⟩
    exact ⟨none, 0, 0, none, 0, 0, rfl, bi_none _, ii_none _, hbw⟩
  | some p =>
    refine (h.rget k p hf).mono ?_
    rintro e w' ⟨g, cap, q, m, d, rfl, hB, hI, hbw⟩
    exact ⟨_, _, _, _, _, _, rfl, hB, hI, hbw⟩
end

set_option maxRecDepth 100000 in
set_option maxHeartbeats 4000000 in
theorem patchAsks_walk (p : Option Addr) (n c : Nat) (D : List Dv) (b k : Int) (hb : I64 b) (hk : I64 k) (dp : Option Addr) (dn dc : Nat) (xs : List Int) (ip : Option Addr) (im ic : Nat) (zs : List Int) (w : World) (hD : DI w p n D) (hX : BI w dp dn xs) (hZ : II w ip im zs) (hSm : Sm im) :
    Calls Try.prog 4 #[.slice p n c, .int .i64 b, .int .i64 k, .slice dp dn dc, .slice ip im ic] w fun e w' => e = .returned (.bool true) ∧ Below w.heap.size w w' := by
  have hnew := new_ok w
  have hDl := hD.len
  have hDb := hD.big
  have HXZ : Hid _ := And.intro hX (And.intro hZ hSm)
  clear hX hZ hSm
  go_enter Try.func4, Try.ntmps4
  go_wp2_with fail
  refine hnew.mono ?_
  rintro _ w1 ⟨a, mp, mb, rfl, hP1, hb1⟩
  clear hnew
  have hJ0 := jt_new hP1 hb1
  have hb2 : Below w.heap.size w (w1.alloc (.cells #[.slice none 0 0, .int .i64 0] 28)) := hb1.alloc hb1.size _
  have HJ0 : Hid _ := And.intro hJ0 hb2
  clear hJ0 hb2 hP1 hb1
  dsimp only
  go_wp2_with fail
  generalize w1.heap.size = x at *
  go_loopw [34] (fun i wr => ∃ (j last : Nat) (Dm : Nat → Prop), j ≤ n ∧ j ≤ 61 ∧ i = .int .i64 (j : Int) ∧ last ≤ j ∧ Jt w.heap.size wr a mp mb x last Dm ∧ Below w.heap.size w wr) (fun i _ => n - (intOf i).toNat)
  case atStart => exact ⟨0, 0, _, by omega, by omega, rfl, by omega, HJ0.out.1, HJ0.out.2⟩
  case round =>
    clear HJ0
    obtain ⟨j, last, Dm, hj, hj61, rfl, hlast, hJ, hbr⟩ := hrel
    by_cases hlt : j < n
    · skip
      obtain ⟨b1, o1, rfl, hc1⟩ := hD.cells (by omega)
      obtain ⟨dv, hd⟩ : ∃ d, D[j]? = some d := ⟨_, List.getElem?_eq_getElem (by omega)⟩
      have hAt := hc1 j dv hd
      obtain ⟨c0, c1, c2, ⟨bp, bn, bc, c3, hbn, hbc, hBI⟩, ⟨ip', im', ic', c4, him, hic, him8, hII⟩, r0, r1, r2⟩ := hAt
      have hlt0 := lt_of_cell c0
      have hk : ∀ i, wr.cell? ⟨b1, i, none⟩ = w.cell? ⟨b1, i, none⟩ := fun i => hbr.cell (p := ⟨b1, i, none⟩) hlt0
      rw [← hk] at c0 c1 c2 c3 c4
      clear hk hlt0
      have hjI : (j : Int) < (n : Int) := by omega
      have hj0 : (0 : Int) ≤ (j : Int) := by omega
      obtain ⟨cs, hcs⟩ : ∃ cs : Array Value, cs = #[.int .i64 dv.op, .int .i64 dv.blk, .int .i64 dv.off, .slice bp bn bc, .slice ip' im' ic'] := ⟨_, rfl⟩
      have hone : (#[.int .i64 dv.op, .int .i64 dv.blk, .int .i64 dv.off, .slice bp bn bc, .slice ip' im' ic'] : Array Value).all (·.oneCell') = true := by simp [Value.oneCell']
      have hr1 := setRow_heap (wr.alloc (.cells #[.int .i64 0, .int .i64 0, .int .i64 0, .slice none 0 0, .slice none 0 0] 32)) wr.heap.size _ cs 32 (0, 0) (at_new rfl)
      have hb1 := below_setRow ((Below.refl wr.heap.size wr).alloc (Nat.le_refl _) (.cells #[.int .i64 0, .int .i64 0, .int .i64 0, .slice none 0 0, .slice none 0 0] 32)) wr.heap.size (Nat.le_refl _) cs
      obtain ⟨W1, hW1⟩ : ∃ W1, (wr.alloc (.cells #[.int .i64 0, .int .i64 0, .int .i64 0, .slice none 0 0, .slice none 0 0] 32)).setRow wr.heap.size cs = W1 := ⟨_, rfl⟩
      rw [hW1] at hr1 hb1
      have x0 : W1.cell? ⟨wr.heap.size, 0, none⟩ = some (.int .i64 dv.op) := by subst hcs; rw [cell_of_row _ _ _ _ 32 _ hr1]; rfl
      have x1 : W1.cell? ⟨wr.heap.size, 1, none⟩ = some (.int .i64 dv.blk) := by subst hcs; rw [cell_of_row _ _ _ _ 32 _ hr1]; rfl
      have x2 : W1.cell? ⟨wr.heap.size, 2, none⟩ = some (.int .i64 dv.off) := by subst hcs; rw [cell_of_row _ _ _ _ 32 _ hr1]; rfl
      have x3 : W1.cell? ⟨wr.heap.size, 3, none⟩ = some (.slice bp bn bc) := by subst hcs; rw [cell_of_row _ _ _ _ 32 _ hr1]; rfl
      have x4 : W1.cell? ⟨wr.heap.size, 4, none⟩ = some (.slice ip' im' ic') := by subst hcs; rw [cell_of_row _ _ _ _ 32 _ hr1]; rfl
      have hbw1 : Below w.heap.size w W1 := hbr.trans (hb1.mono hbr.size)
      have hJ1 := hJ.kept hb1
      by_cases hj60 : j ≤ 40
      · have hj6 : ¬ (40 : Int) < (j : Int) := by omega
        have hdo := does_ok hJ1 hbw1.size (by omega) dv.op dv.blk dv.off r1 r2 r0 bp bn bc dv.bytes (hBI.kept hbw1) ip' im' ic' dv.ids (hII.kept hbw1) him8 hBI.below hII.below
        have HL : Hid _ := And.intro hbw1 hJ1.lo
        clear hc1 hd hr1 hBI hII hbr hJ hJ1 hbw1 hb1
        go_wp2_with (first
          | (refine wpList_store_row rfl 32 _ _ rfl wr.heap.size cs rfl (by rw [hcs]; rfl) 32 _ (at_new rfl) (by rw [hcs]; exact info32) (by rw [hcs]; rfl) (by rw [hcs]; exact hone) ?_; rw [hW1]))
        refine hdo.mono ?_
        rintro _ w2 ⟨rfl, hF2, l', hl', hJ2⟩
        clear hdo
        have hbw2 : Below w.heap.size w w2 := HL.out.1.trans (hF2.below HL.out.1.size (fun k hk => (HL.out.2 k hk).1))
        clear hF2 x0 x1 x2 x3 x4 c0 c1 c2 c3 c4
        dsimp only
        go_wp2_with fail
        go_roundw
        case rel => exact ⟨j + 1, l', _, by omega, by omega, by go_num, by omega, hJ2, hbw2⟩
        case measure => simp [intOf]; omega
      · have hj6 : (40 : Int) < (j : Int) := by omega
        obtain ⟨P, K, lv, L, hT⟩ := hJ1.bth
        have hn1 := hT.now1 b hb dp dn dc xs (HXZ.out.1.kept hbw1)
        have HXW : Hid (BI W1 dp dn xs ∧ II W1 ip im zs ∧ Sm im) := And.intro (HXZ.out.1.kept hbw1) (And.intro (HXZ.out.2.1.kept hbw1) HXZ.out.2.2)
        have HT : Hid _ := hT
        have HBX : Hid _ := hbw1
        clear hc1 hd hr1 hBI hII hbr hJ hJ1 hbw1 hb1 x0 x1 x2 x3 x4 hT
        go_wp2_with (first
          | (refine wpList_store_row rfl 32 _ _ rfl wr.heap.size cs rfl (by rw [hcs]; rfl) 32 _ (at_new rfl) (by rw [hcs]; exact info32) (by rw [hcs]; rfl) (by rw [hcs]; exact hone) ?_; rw [hW1]))
        refine hn1.mono ?_
        rintro _ w2 ⟨q2, m2, d2, rfl, hB2, hb2⟩
        clear hn1
        have h2 := hb2
        have hn2 := (HT.out.on h2).now2 b dp dn dc xs (HXW.out.1.kept h2)
        dsimp only
        go_wp2_with fail
        refine hn2.mono ?_
        rintro _ w3 ⟨q3, m3, d3, rfl, hB3, hb3⟩
        clear hn2
        have h3 := h2.trans (hb3.mono h2.size)
        have hpl := (HT.out.on h3).plan1 b hb dp dn dc xs (HXW.out.1.kept h3)
        dsimp only
        go_wp2_with fail
        refine hpl.mono ?_
        rintro _ w4 ⟨ob, on, oc, ib, im4, ic4, rfl, hOB, hIB, hb4⟩
        clear hpl
        have h4 := h3.trans (hb4.mono h3.size)
        have hrp := (HT.out.on h4).plan2 b dp dn dc xs (HXW.out.1.kept h4)
        dsimp only
        go_wp2_with fail
        refine hrp.mono ?_
        rintro _ w5 ⟨ob2, on2, oc2, ib2, im5, ic5, rfl, hOB2, hIB2, hb5⟩
        clear hrp
        have h5 := h4.trans (hb5.mono h4.size)
        have hg1 := (HT.out.on h5).get1 k hk
        dsimp only
        go_wp2_with fail
        refine hg1.mono ?_
        rintro _ w6 ⟨gp, gn, gc, gq, gm, gd, rfl, hGB, hGI, hb6⟩
        clear hg1
        dsimp only
        go_wp2_with fail
        have hbA := (Below.refl w6.heap.size w6).alloc (Nat.le_refl _) (.cells #[.int .i64 (gvOf P k).i, .int .i64 (gvOf P k).b, .int .i64 (gvOf P k).o, .slice gp gn gc, .slice gq gm gd] 44)
        have hu := at_new (w := w6) (o := .cells #[.int .i64 (gvOf P k).i, .int .i64 (gvOf P k).b, .int .i64 (gvOf P k).o, .slice gp gn gc, .slice gq gm gd] 44) rfl
        generalize w6.alloc (.cells #[.int .i64 (gvOf P k).i, .int .i64 (gvOf P k).b, .int .i64 (gvOf P k).o, .slice gp gn gc, .slice gq gm gd] 44) = w7 at *
        have h56 := hb6.trans (hbA.mono hb6.size)
        have h7 := h5.trans (h56.mono h5.size)
        have hg2 := (HT.out.on h7).get2 k
        refine hg2.mono ?_
        rintro _ w8 ⟨gp2, gn2, gc2, gq2, gm2, gd2, rfl, hGB2, hGI2, hb8⟩
        clear hg2
        have hbV := (Below.refl w8.heap.size w8).alloc (Nat.le_refl _) (.cells #[.int .i64 (gvOf P k).i, .int .i64 (gvOf P k).b, .int .i64 (gvOf P k).o, .slice gp2 gn2 gc2, .slice gq2 gm2 gd2] 44)
        have h7V : Below w7.heap.size w7 (w8.alloc (.cells #[.int .i64 (gvOf P k).i, .int .i64 (gvOf P k).b, .int .i64 (gvOf P k).o, .slice gp2 gn2 gc2, .slice gq2 gm2 gd2] 44)) := hb8.trans (hbV.mono hb8.size)
        have huV := (h7V.block _ (Array.getElem?_eq_some_iff.1 hu).1).trans hu
        have y0 : (w8.alloc (.cells #[.int .i64 (gvOf P k).i, .int .i64 (gvOf P k).b, .int .i64 (gvOf P k).o, .slice gp2 gn2 gc2, .slice gq2 gm2 gd2] 44)).cell? ⟨w6.heap.size, 0, none⟩ = some (.int .i64 (gvOf P k).i) := cell_of_row _ _ 0 _ 44 _ huV
        have y1 : (w8.alloc (.cells #[.int .i64 (gvOf P k).i, .int .i64 (gvOf P k).b, .int .i64 (gvOf P k).o, .slice gp2 gn2 gc2, .slice gq2 gm2 gd2] 44)).cell? ⟨w6.heap.size, 1, none⟩ = some (.int .i64 (gvOf P k).b) := cell_of_row _ _ 1 _ 44 _ huV
        have y2 : (w8.alloc (.cells #[.int .i64 (gvOf P k).i, .int .i64 (gvOf P k).b, .int .i64 (gvOf P k).o, .slice gp2 gn2 gc2, .slice gq2 gm2 gd2] 44)).cell? ⟨w6.heap.size, 2, none⟩ = some (.int .i64 (gvOf P k).o) := cell_of_row _ _ 2 _ 44 _ huV
        have y3 : (w8.alloc (.cells #[.int .i64 (gvOf P k).i, .int .i64 (gvOf P k).b, .int .i64 (gvOf P k).o, .slice gp2 gn2 gc2, .slice gq2 gm2 gd2] 44)).cell? ⟨w6.heap.size, 3, none⟩ = some (.slice gp gn gc) := cell_of_row _ _ 3 _ 44 _ huV
        have y4 : (w8.alloc (.cells #[.int .i64 (gvOf P k).i, .int .i64 (gvOf P k).b, .int .i64 (gvOf P k).o, .slice gp2 gn2 gc2, .slice gq2 gm2 gd2] 44)).cell? ⟨w6.heap.size, 4, none⟩ = some (.slice gq gm gd) := cell_of_row _ _ 4 _ 44 _ huV
        have h6V : Below w6.heap.size w6 (w8.alloc (.cells #[.int .i64 (gvOf P k).i, .int .i64 (gvOf P k).b, .int .i64 (gvOf P k).o, .slice gp2 gn2 gc2, .slice gq2 gm2 gd2] 44)) := hbA.trans (h7V.mono hbA.size)
        have h5V : Below w5.heap.size w5 (w8.alloc (.cells #[.int .i64 (gvOf P k).i, .int .i64 (gvOf P k).b, .int .i64 (gvOf P k).o, .slice gp2 gn2 gc2, .slice gq2 gm2 gd2] 44)) := hb6.trans (h6V.mono hb6.size)
        have h4V : Below w4.heap.size w4 (w8.alloc (.cells #[.int .i64 (gvOf P k).i, .int .i64 (gvOf P k).b, .int .i64 (gvOf P k).o, .slice gp2 gn2 gc2, .slice gq2 gm2 gd2] 44)) := hb5.trans (h5V.mono hb5.size)
        have h3V : Below w3.heap.size w3 (w8.alloc (.cells #[.int .i64 (gvOf P k).i, .int .i64 (gvOf P k).b, .int .i64 (gvOf P k).o, .slice gp2 gn2 gc2, .slice gq2 gm2 gd2] 44)) := hb4.trans (h4V.mono hb4.size)
        have h2V : Below w2.heap.size w2 (w8.alloc (.cells #[.int .i64 (gvOf P k).i, .int .i64 (gvOf P k).b, .int .i64 (gvOf P k).o, .slice gp2 gn2 gc2, .slice gq2 gm2 gd2] 44)) := hb3.trans (h3V.mono hb3.size)
        have hXV : Below W1.heap.size W1 (w8.alloc (.cells #[.int .i64 (gvOf P k).i, .int .i64 (gvOf P k).b, .int .i64 (gvOf P k).o, .slice gp2 gn2 gc2, .slice gq2 gm2 gd2] 44)) := h7.trans (h7V.mono h7.size)
        have hbe1 := beq_ok (c := d2) (d := d3) (hB2.kept h2V) (hB3.kept h3V)
        have hbe2 := beq_ok (c := oc) (d := oc2) (hOB.kept h4V) (hOB2.kept h5V)
        have hie := ieq_ok (c := ic4) (d := ic5) (hIB.kept h4V) (hIB2.kept h5V)
        rw [beq_self_eq_true] at hbe1 hbe2 hie
        have HG : Hid _ := And.intro (hGB.kept h6V) (And.intro (hGB2.kept hbV) (And.intro (hGI.kept h6V) (And.intro (hGI2.kept hbV) (And.intro hXV huV))))
        clear hbA hu h56 h7 hb8 hbV h7V huV h6V h5V h4V h3V h2V hXV hB2 hB3 hOB hOB2 hIB hIB2 hGB hGB2 hGI hGI2 hb2 hb3 hb4 hb5 hb6 h2 h3 h4 h5
        dsimp only
        go_wp2_with fail
        refine same_at hbe1 ?_
        clear hbe1
        dsimp only
        go_wp2_with fail
        refine same_at hbe2 ?_
        clear hbe2
        dsimp only
        go_wp2_with fail
        refine below_at hie ?_
        intro w9 hb9
        clear hie y0 y1 y2 y3 y4
        obtain ⟨g1, g2, g3, g4, g5, g6⟩ := HG.out
        have hu9 := (hb9.block _ (Array.getElem?_eq_some_iff.1 g6).1).trans g6
        have hv0 := at_new (w := w8) (o := .cells #[.int .i64 (gvOf P k).i, .int .i64 (gvOf P k).b, .int .i64 (gvOf P k).o, .slice gp2 gn2 gc2, .slice gq2 gm2 gd2] 44) rfl
        have hv9 := (hb9.block _ (Array.getElem?_eq_some_iff.1 hv0).1).trans hv0
        have y0 : w9.cell? ⟨w6.heap.size, 0, none⟩ = some (.int .i64 (gvOf P k).i) := cell_of_row _ _ 0 _ 44 _ hu9
        have y1 : w9.cell? ⟨w6.heap.size, 1, none⟩ = some (.int .i64 (gvOf P k).b) := cell_of_row _ _ 1 _ 44 _ hu9
        have y2 : w9.cell? ⟨w6.heap.size, 2, none⟩ = some (.int .i64 (gvOf P k).o) := cell_of_row _ _ 2 _ 44 _ hu9
        have y3 : w9.cell? ⟨w6.heap.size, 3, none⟩ = some (.slice gp gn gc) := cell_of_row _ _ 3 _ 44 _ hu9
        have y4 : w9.cell? ⟨w6.heap.size, 4, none⟩ = some (.slice gq gm gd) := cell_of_row _ _ 4 _ 44 _ hu9
        have z0 : w9.cell? ⟨w8.heap.size, 0, none⟩ = some (.int .i64 (gvOf P k).i) := cell_of_row _ _ 0 _ 44 _ hv9
        have z1 : w9.cell? ⟨w8.heap.size, 1, none⟩ = some (.int .i64 (gvOf P k).b) := cell_of_row _ _ 1 _ 44 _ hv9
        have z2 : w9.cell? ⟨w8.heap.size, 2, none⟩ = some (.int .i64 (gvOf P k).o) := cell_of_row _ _ 2 _ 44 _ hv9
        have z3 : w9.cell? ⟨w8.heap.size, 3, none⟩ = some (.slice gp2 gn2 gc2) := cell_of_row _ _ 3 _ 44 _ hv9
        have z4 : w9.cell? ⟨w8.heap.size, 4, none⟩ = some (.slice gq2 gm2 gd2) := cell_of_row _ _ 4 _ 44 _ hv9
        have hsa := samePatch_ok (gvOf P k).i (gvOf P k).b (gvOf P k).o gp gp2 gq gq2 gn gn2 gm gm2 gc gc2 gd gd2 (gvOf P k).bs (gvOf P k).nd w9 (g1.kept hb9) (g2.kept hb9) (g3.kept hb9) (g4.kept hb9)
        have h9 := g5.trans (hb9.mono g5.size)
        have H9 : Hid _ := h9
        clear h9 g1 g2 g3 g4 g5 g6 hb9 hu9 hv9 hv0 HG
        generalize (gvOf P k).i = G0 at *
        generalize (gvOf P k).b = G1 at *
        generalize (gvOf P k).o = G2 at *
        generalize w6.heap.size = s6 at *
        generalize w8.heap.size = s8 at *
        dsimp only
        go_wp2_with fail
        refine below_at hsa ?_
        intro w10 hb10
        clear hsa y0 y1 y2 y3 y4 z0 z1 z2 z3 z4
        have h10 := H9.out.trans (hb10.mono H9.out.size)
        have hcl := closure_ok (HT.out.on h10).ps ip im ic zs (HXW.out.2.1.kept h10)
        have H10 : Hid _ := h10
        clear h10 hb10
        dsimp only
        go_wp2_with fail
        refine hcl.mono ?_
        rintro _ w11 ⟨q11, c11, O, rfl, hI11, _, hO11, _, hb11⟩
        clear hcl
        have h11 := H10.out.trans (hb11.mono H10.out.size)
        have hrc := (HT.out.on h11).clo ip im ic zs (HXW.out.2.1.kept h11) HXW.out.2.2 O hO11
        dsimp only
        go_wp2_with fail
        refine hrc.mono ?_
        rintro _ w12 ⟨q12, m12, d12, rfl, hI12, hb12⟩
        clear hrc
        have h12 := h11.trans (hb12.mono h11.size)
        have hie := ieq_ok (c := c11) (d := d12) (hI11.kept hb12) hI12
        rw [beq_self_eq_true] at hie
        have H12 : Hid _ := h12
        clear h11 h12 hb11 hb12 hI11 hI12 hO11
        dsimp only
        go_wp2_with fail
        refine below_at hie ?_
        intro w13 hb13
        clear hie
        have h13 := H12.out.trans (hb13.mono H12.out.size)
        have hd1 := isDone_ok (HT.out.on h13).ps k hk
        have H13 : Hid _ := h13
        clear h13 hb13
        dsimp only
        go_wp2_with fail
        refine below_at hd1 ?_
        intro w14 hb14
        clear hd1
        have h14 := H13.out.trans (hb14.mono H13.out.size)
        have hd2 := risDone_ok (HT.out.on h14).rz k hk
        rw [HT.out.dn k] at hd2
        have H14 : Hid _ := h14
        clear h14 hb14
        dsimp only
        go_wp2_with fail
        refine below_at hd2 ?_
        intro w15 hb15
        clear hd2
        have h15 := H14.out.trans (hb15.mono H14.out.size)
        have ho1 := of2_ok (HT.out.on h15).ps b hb
        have H15 : Hid _ := h15
        clear h15 hb15
        dsimp only
        go_wp2_with fail
        refine ho1.mono ?_
        rintro _ w16 ⟨q16, m16, d16, rfl, hI16, hb16⟩
        clear ho1
        have h16 := H15.out.trans (hb16.mono H15.out.size)
        have ho2 := (HT.out.on h16).rof b
        dsimp only
        go_wp2_with fail
        refine ho2.mono ?_
        rintro _ w17 ⟨q17, m17, d17, rfl, hI17, hb17⟩
        clear ho2
        have h17 := h16.trans (hb17.mono h16.size)
        have hie := ieq_ok (c := d16) (d := d17) (hI16.kept hb17) hI17
        rw [beq_self_eq_true] at hie
        have H17 : Hid _ := h17
        clear h16 h17 hb16 hb17 hI16 hI17
        dsimp only
        go_wp2_with fail
        refine below_at hie ?_
        intro w18 hb18
        clear hie
        have h18 := H17.out.trans (hb18.mono H17.out.size)
        have hfin := HBX.out.trans (h18.mono HBX.out.size)
        dsimp only
        go_wp2_with fail
        go_ret
        exact ⟨by simp, hfin⟩
    · obtain rfl : j = n := by omega
      have hnt : ¬ (j : Int) < (j : Int) := by omega
      rename World => wo
      obtain ⟨P, K, lv, L, hT⟩ := hJ.bth
      have hn1 := hT.now1 b hb dp dn dc xs (HXZ.out.1.kept hbr)
      have HXW : Hid (BI wo dp dn xs ∧ II wo ip im zs ∧ Sm im) := And.intro (HXZ.out.1.kept hbr) (And.intro (HXZ.out.2.1.kept hbr) HXZ.out.2.2)
      have HT : Hid _ := hT
      have HBX : Hid _ := hbr
      clear hJ hbr hT
      go_wp2_with fail
      refine hn1.mono ?_
      rintro _ w2 ⟨q2, m2, d2, rfl, hB2, hb2⟩
      clear hn1
      have h2 := hb2
      have hn2 := (HT.out.on h2).now2 b dp dn dc xs (HXW.out.1.kept h2)
      dsimp only
      go_wp2_with fail
      refine hn2.mono ?_
      rintro _ w3 ⟨q3, m3, d3, rfl, hB3, hb3⟩
      clear hn2
      have h3 := h2.trans (hb3.mono h2.size)
      have hpl := (HT.out.on h3).plan1 b hb dp dn dc xs (HXW.out.1.kept h3)
      dsimp only
      go_wp2_with fail
      refine hpl.mono ?_
      rintro _ w4 ⟨ob, on, oc, ib, im4, ic4, rfl, hOB, hIB, hb4⟩
      clear hpl
      have h4 := h3.trans (hb4.mono h3.size)
      have hrp := (HT.out.on h4).plan2 b dp dn dc xs (HXW.out.1.kept h4)
      dsimp only
      go_wp2_with fail
      refine hrp.mono ?_
      rintro _ w5 ⟨ob2, on2, oc2, ib2, im5, ic5, rfl, hOB2, hIB2, hb5⟩
      clear hrp
      have h5 := h4.trans (hb5.mono h4.size)
      have hg1 := (HT.out.on h5).get1 k hk
      dsimp only
      go_wp2_with fail
      refine hg1.mono ?_
      rintro _ w6 ⟨gp, gn, gc, gq, gm, gd, rfl, hGB, hGI, hb6⟩
      clear hg1
      dsimp only
      go_wp2_with fail
      have hbA := (Below.refl w6.heap.size w6).alloc (Nat.le_refl _) (.cells #[.int .i64 (gvOf P k).i, .int .i64 (gvOf P k).b, .int .i64 (gvOf P k).o, .slice gp gn gc, .slice gq gm gd] 44)
      have hu := at_new (w := w6) (o := .cells #[.int .i64 (gvOf P k).i, .int .i64 (gvOf P k).b, .int .i64 (gvOf P k).o, .slice gp gn gc, .slice gq gm gd] 44) rfl
      generalize w6.alloc (.cells #[.int .i64 (gvOf P k).i, .int .i64 (gvOf P k).b, .int .i64 (gvOf P k).o, .slice gp gn gc, .slice gq gm gd] 44) = w7 at *
      have h56 := hb6.trans (hbA.mono hb6.size)
      have h7 := h5.trans (h56.mono h5.size)
      have hg2 := (HT.out.on h7).get2 k
      refine hg2.mono ?_
      rintro _ w8 ⟨gp2, gn2, gc2, gq2, gm2, gd2, rfl, hGB2, hGI2, hb8⟩
      clear hg2
      have hbV := (Below.refl w8.heap.size w8).alloc (Nat.le_refl _) (.cells #[.int .i64 (gvOf P k).i, .int .i64 (gvOf P k).b, .int .i64 (gvOf P k).o, .slice gp2 gn2 gc2, .slice gq2 gm2 gd2] 44)
      have h7V : Below w7.heap.size w7 (w8.alloc (.cells #[.int .i64 (gvOf P k).i, .int .i64 (gvOf P k).b, .int .i64 (gvOf P k).o, .slice gp2 gn2 gc2, .slice gq2 gm2 gd2] 44)) := hb8.trans (hbV.mono hb8.size)
      have huV := (h7V.block _ (Array.getElem?_eq_some_iff.1 hu).1).trans hu
      have y0 : (w8.alloc (.cells #[.int .i64 (gvOf P k).i, .int .i64 (gvOf P k).b, .int .i64 (gvOf P k).o, .slice gp2 gn2 gc2, .slice gq2 gm2 gd2] 44)).cell? ⟨w6.heap.size, 0, none⟩ = some (.int .i64 (gvOf P k).i) := cell_of_row _ _ 0 _ 44 _ huV
      have y1 : (w8.alloc (.cells #[.int .i64 (gvOf P k).i, .int .i64 (gvOf P k).b, .int .i64 (gvOf P k).o, .slice gp2 gn2 gc2, .slice gq2 gm2 gd2] 44)).cell? ⟨w6.heap.size, 1, none⟩ = some (.int .i64 (gvOf P k).b) := cell_of_row _ _ 1 _ 44 _ huV
      have y2 : (w8.alloc (.cells #[.int .i64 (gvOf P k).i, .int .i64 (gvOf P k).b, .int .i64 (gvOf P k).o, .slice gp2 gn2 gc2, .slice gq2 gm2 gd2] 44)).cell? ⟨w6.heap.size, 2, none⟩ = some (.int .i64 (gvOf P k).o) := cell_of_row _ _ 2 _ 44 _ huV
      have y3 : (w8.alloc (.cells #[.int .i64 (gvOf P k).i, .int .i64 (gvOf P k).b, .int .i64 (gvOf P k).o, .slice gp2 gn2 gc2, .slice gq2 gm2 gd2] 44)).cell? ⟨w6.heap.size, 3, none⟩ = some (.slice gp gn gc) := cell_of_row _ _ 3 _ 44 _ huV
      have y4 : (w8.alloc (.cells #[.int .i64 (gvOf P k).i, .int .i64 (gvOf P k).b, .int .i64 (gvOf P k).o, .slice gp2 gn2 gc2, .slice gq2 gm2 gd2] 44)).cell? ⟨w6.heap.size, 4, none⟩ = some (.slice gq gm gd) := cell_of_row _ _ 4 _ 44 _ huV
      have h6V : Below w6.heap.size w6 (w8.alloc (.cells #[.int .i64 (gvOf P k).i, .int .i64 (gvOf P k).b, .int .i64 (gvOf P k).o, .slice gp2 gn2 gc2, .slice gq2 gm2 gd2] 44)) := hbA.trans (h7V.mono hbA.size)
      have h5V : Below w5.heap.size w5 (w8.alloc (.cells #[.int .i64 (gvOf P k).i, .int .i64 (gvOf P k).b, .int .i64 (gvOf P k).o, .slice gp2 gn2 gc2, .slice gq2 gm2 gd2] 44)) := hb6.trans (h6V.mono hb6.size)
      have h4V : Below w4.heap.size w4 (w8.alloc (.cells #[.int .i64 (gvOf P k).i, .int .i64 (gvOf P k).b, .int .i64 (gvOf P k).o, .slice gp2 gn2 gc2, .slice gq2 gm2 gd2] 44)) := hb5.trans (h5V.mono hb5.size)
      have h3V : Below w3.heap.size w3 (w8.alloc (.cells #[.int .i64 (gvOf P k).i, .int .i64 (gvOf P k).b, .int .i64 (gvOf P k).o, .slice gp2 gn2 gc2, .slice gq2 gm2 gd2] 44)) := hb4.trans (h4V.mono hb4.size)
      have h2V : Below w2.heap.size w2 (w8.alloc (.cells #[.int .i64 (gvOf P k).i, .int .i64 (gvOf P k).b, .int .i64 (gvOf P k).o, .slice gp2 gn2 gc2, .slice gq2 gm2 gd2] 44)) := hb3.trans (h3V.mono hb3.size)
      have hXV : Below wo.heap.size wo (w8.alloc (.cells #[.int .i64 (gvOf P k).i, .int .i64 (gvOf P k).b, .int .i64 (gvOf P k).o, .slice gp2 gn2 gc2, .slice gq2 gm2 gd2] 44)) := h7.trans (h7V.mono h7.size)
      have hbe1 := beq_ok (c := d2) (d := d3) (hB2.kept h2V) (hB3.kept h3V)
      have hbe2 := beq_ok (c := oc) (d := oc2) (hOB.kept h4V) (hOB2.kept h5V)
      have hie := ieq_ok (c := ic4) (d := ic5) (hIB.kept h4V) (hIB2.kept h5V)
      rw [beq_self_eq_true] at hbe1 hbe2 hie
      have HG : Hid _ := And.intro (hGB.kept h6V) (And.intro (hGB2.kept hbV) (And.intro (hGI.kept h6V) (And.intro (hGI2.kept hbV) (And.intro hXV huV))))
      clear hbA hu h56 h7 hb8 hbV h7V huV h6V h5V h4V h3V h2V hXV hB2 hB3 hOB hOB2 hIB hIB2 hGB hGB2 hGI hGI2 hb2 hb3 hb4 hb5 hb6 h2 h3 h4 h5
      dsimp only
      go_wp2_with fail
      refine same_at hbe1 ?_
      clear hbe1
      dsimp only
      go_wp2_with fail
      refine same_at hbe2 ?_
      clear hbe2
      dsimp only
      go_wp2_with fail
      refine below_at hie ?_
      intro w9 hb9
      clear hie y0 y1 y2 y3 y4
      obtain ⟨g1, g2, g3, g4, g5, g6⟩ := HG.out
      have hu9 := (hb9.block _ (Array.getElem?_eq_some_iff.1 g6).1).trans g6
      have hv0 := at_new (w := w8) (o := .cells #[.int .i64 (gvOf P k).i, .int .i64 (gvOf P k).b, .int .i64 (gvOf P k).o, .slice gp2 gn2 gc2, .slice gq2 gm2 gd2] 44) rfl
      have hv9 := (hb9.block _ (Array.getElem?_eq_some_iff.1 hv0).1).trans hv0
      have y0 : w9.cell? ⟨w6.heap.size, 0, none⟩ = some (.int .i64 (gvOf P k).i) := cell_of_row _ _ 0 _ 44 _ hu9
      have y1 : w9.cell? ⟨w6.heap.size, 1, none⟩ = some (.int .i64 (gvOf P k).b) := cell_of_row _ _ 1 _ 44 _ hu9
      have y2 : w9.cell? ⟨w6.heap.size, 2, none⟩ = some (.int .i64 (gvOf P k).o) := cell_of_row _ _ 2 _ 44 _ hu9
      have y3 : w9.cell? ⟨w6.heap.size, 3, none⟩ = some (.slice gp gn gc) := cell_of_row _ _ 3 _ 44 _ hu9
      have y4 : w9.cell? ⟨w6.heap.size, 4, none⟩ = some (.slice gq gm gd) := cell_of_row _ _ 4 _ 44 _ hu9
      have z0 : w9.cell? ⟨w8.heap.size, 0, none⟩ = some (.int .i64 (gvOf P k).i) := cell_of_row _ _ 0 _ 44 _ hv9
      have z1 : w9.cell? ⟨w8.heap.size, 1, none⟩ = some (.int .i64 (gvOf P k).b) := cell_of_row _ _ 1 _ 44 _ hv9
      have z2 : w9.cell? ⟨w8.heap.size, 2, none⟩ = some (.int .i64 (gvOf P k).o) := cell_of_row _ _ 2 _ 44 _ hv9
      have z3 : w9.cell? ⟨w8.heap.size, 3, none⟩ = some (.slice gp2 gn2 gc2) := cell_of_row _ _ 3 _ 44 _ hv9
      have z4 : w9.cell? ⟨w8.heap.size, 4, none⟩ = some (.slice gq2 gm2 gd2) := cell_of_row _ _ 4 _ 44 _ hv9
      have hsa := samePatch_ok (gvOf P k).i (gvOf P k).b (gvOf P k).o gp gp2 gq gq2 gn gn2 gm gm2 gc gc2 gd gd2 (gvOf P k).bs (gvOf P k).nd w9 (g1.kept hb9) (g2.kept hb9) (g3.kept hb9) (g4.kept hb9)
      have h9 := g5.trans (hb9.mono g5.size)
      have H9 : Hid _ := h9
      clear h9 g1 g2 g3 g4 g5 g6 hb9 hu9 hv9 hv0 HG
      generalize (gvOf P k).i = G0 at *
      generalize (gvOf P k).b = G1 at *
      generalize (gvOf P k).o = G2 at *
      generalize w6.heap.size = s6 at *
      generalize w8.heap.size = s8 at *
      dsimp only
      go_wp2_with fail
      refine below_at hsa ?_
      intro w10 hb10
      clear hsa y0 y1 y2 y3 y4 z0 z1 z2 z3 z4
      have h10 := H9.out.trans (hb10.mono H9.out.size)
      have hcl := closure_ok (HT.out.on h10).ps ip im ic zs (HXW.out.2.1.kept h10)
      have H10 : Hid _ := h10
      clear h10 hb10
      dsimp only
      go_wp2_with fail
      refine hcl.mono ?_
      rintro _ w11 ⟨q11, c11, O, rfl, hI11, _, hO11, _, hb11⟩
      clear hcl
      have h11 := H10.out.trans (hb11.mono H10.out.size)
      have hrc := (HT.out.on h11).clo ip im ic zs (HXW.out.2.1.kept h11) HXW.out.2.2 O hO11
      dsimp only
      go_wp2_with fail
      refine hrc.mono ?_
      rintro _ w12 ⟨q12, m12, d12, rfl, hI12, hb12⟩
      clear hrc
      have h12 := h11.trans (hb12.mono h11.size)
      have hie := ieq_ok (c := c11) (d := d12) (hI11.kept hb12) hI12
      rw [beq_self_eq_true] at hie
      have H12 : Hid _ := h12
      clear h11 h12 hb11 hb12 hI11 hI12 hO11
      dsimp only
      go_wp2_with fail
      refine below_at hie ?_
      intro w13 hb13
      clear hie
      have h13 := H12.out.trans (hb13.mono H12.out.size)
      have hd1 := isDone_ok (HT.out.on h13).ps k hk
      have H13 : Hid _ := h13
      clear h13 hb13
      dsimp only
      go_wp2_with fail
      refine below_at hd1 ?_
      intro w14 hb14
      clear hd1
      have h14 := H13.out.trans (hb14.mono H13.out.size)
      have hd2 := risDone_ok (HT.out.on h14).rz k hk
      rw [HT.out.dn k] at hd2
      have H14 : Hid _ := h14
      clear h14 hb14
      dsimp only
      go_wp2_with fail
      refine below_at hd2 ?_
      intro w15 hb15
      clear hd2
      have h15 := H14.out.trans (hb15.mono H14.out.size)
      have ho1 := of2_ok (HT.out.on h15).ps b hb
      have H15 : Hid _ := h15
      clear h15 hb15
      dsimp only
      go_wp2_with fail
      refine ho1.mono ?_
      rintro _ w16 ⟨q16, m16, d16, rfl, hI16, hb16⟩
      clear ho1
      have h16 := H15.out.trans (hb16.mono H15.out.size)
      have ho2 := (HT.out.on h16).rof b
      dsimp only
      go_wp2_with fail
      refine ho2.mono ?_
      rintro _ w17 ⟨q17, m17, d17, rfl, hI17, hb17⟩
      clear ho2
      have h17 := h16.trans (hb17.mono h16.size)
      have hie := ieq_ok (c := d16) (d := d17) (hI16.kept hb17) hI17
      rw [beq_self_eq_true] at hie
      have H17 : Hid _ := h17
      clear h16 h17 hb16 hb17 hI16 hI17
      dsimp only
      go_wp2_with fail
      refine below_at hie ?_
      intro w18 hb18
      clear hie
      have h18 := H17.out.trans (hb18.mono H17.out.size)
      have hfin := HBX.out.trans (h18.mono HBX.out.size)
      dsimp only
      go_wp2_with fail
      go_ret
      exact ⟨by simp, hfin⟩
end Go.Proofs.Yteapkfnklbhdfaa

/- PatchAsks' arguments opened. -/
namespace Go.Proofs.Yteapkfnklbhdfaa
open Go.ChangeShapes Go.WideShapes Go.ChangeAt Go.RowKit
set_option linter.unusedVariables false

theorem i64_of {x : Int} (h : (Lit.int .i64 x).wf = true) : I64 x := by
  have := rng_of_wf h
  exact ⟨by omega, by omega⟩

theorem bulk_len {H : Type} (l : List (DataW H)) : l.length ≤ Rows.uptoBulkAll l := by
  induction l with
  | nil => simp [Rows.uptoBulkAll]
  | cons x r ih =>
    have h1 : 1 ≤ Rows.uptoBulk x := by
      cases x with
      | lit l => cases l <;> simp [Rows.uptoBulk]
      | nil => simp [Rows.uptoBulk]
      | ptr d => simp [Rows.uptoBulk]
      | slice elems spare => simp [Rows.uptoBulk]
      | agg parts => simp [Rows.uptoBulk]
      | iface t d => simp [Rows.uptoBulk]
      | map entries => simp [Rows.uptoBulk]
      | held h => simp [Rows.uptoBulk]
    simp only [Rows.uptoBulkAll, List.length_cons]
    omega

section
variable {H : Type} {enc : TypeId × Value → H} {W : World}
theorem open_bytes3 {a0 : Option Addr} {len0 cap0 : Nat} {d0 : DataW H} {p0 : List MemPlace} {ts : List TypeId} {ds : List (DataW H)} {j : Nat}
    (h0 : DataW.Trod enc Try.prog W 0 (fun _ => true) true 29 (.slice a0 len0 cap0) d0 p0)
    (hsz : (DataW.weightsEach Try.prog ts ds).all (· ≤ reachBytes) = true) (ht : ts[j]? = some 29) (hd : ds[j]? = some d0) : ∃ xs, BI W a0 len0 xs := by
  obtain ⟨fuel, hf⟩ := h0
  have hall : ∀ x ∈ d0.weights Try.prog 29, x ≤ reachBytes := fun x hx => by
    have := List.all_eq_true.1 hsz x (DataW.weights_mem_each ht hd x hx)
    simpa using this
  obtain ⟨p, m, c, xs, e, _, _, h⟩ := open_bi (v := .slice a0 len0 cap0) (by simpa [Value.cells] using hf) hall
  obtain ⟨rfl, rfl, rfl⟩ := Value.slice.inj e
  exact ⟨xs, h⟩
theorem bulk_ii {a0 : Option Addr} {len0 cap0 : Nat} {d0 : DataW H} {p0 : List MemPlace}
    (h0 : DataW.Trod enc Try.prog W 0 (fun _ => true) true 30 (.slice a0 len0 cap0) d0 p0) : len0 ≤ Rows.uptoBulk d0 := by
  obtain ⟨fuel, hf⟩ := h0
  have hf' : DataW.trod enc Try.prog W 0 (fun _ => true) true fuel 30 [.slice a0 len0 cap0] = some (d0, p0) := by simpa [Value.cells] using hf
  rcases open_ints Try.underlying30 Try.underlying3 cells3 hf' with ⟨hcs, _⟩ | ⟨x, l, c, zs, hcs, _, hl, hm, hz, hx, hcell, hwz⟩
  · simp at hcs
    omega
  · simp at hcs
    obtain ⟨rfl, rfl, rfl⟩ := hcs
    simp only [Prod.mk.injEq] at hx
    obtain ⟨rfl, _⟩ := hx
    simp only [if_true] at hz
    have h1 := bulk_len (lits IntKind.i64 (zs.take len0) : List (DataW H))
    have h2 : (lits IntKind.i64 (zs.take len0) : List (DataW H)).length = len0 := by simp only [lits, List.length_map, List.length_take]; omega
    simp only [Rows.uptoBulk]
    omega
end
end Go.Proofs.Yteapkfnklbhdfaa

namespace Go.Proofs.Yteapkfnklbhdfaa
open Go.ChangeShapes Go.WideShapes Go.ChangeAt Go.RowKit
set_option linter.unusedVariables false

set_option maxRecDepth 100000 in
theorem patchAsks_lifted (os : Os) (started : os.Started) (H : Type) (enc : TypeId × Value → H) (F : Stop.Interp) :
    ReturnsInHanded {} Try.checked os 4 .any ((Rows.OpenSpec.upto Rows.patchAsksSpec).pre6 enc Try.prog Try.f4 Rows.patchAsksUptoRow.domain false) (((Rows.OpenSpec.upto Rows.patchAsksSpec).at F).post enc Try.prog Try.f4 false true false false) := by
  refine returnsInHanded_of_cond_sized (C := Try.checked) (s := Rows.OpenSpec.upto Rows.patchAsksSpec) (k := Rows.uptoSmall) rfl ownKnob_none started (by kernel_rfl) Try.func4
    (OpenSpec.witness (enc := enc) (C := Try.checked) (s := Rows.OpenSpec.upto Rows.patchAsksSpec) (k := Rows.uptoSmall) rfl false ⟨#[], #[.slice none 0 0, .int .i64 0, .int .i64 0, .slice none 0 0, .slice none 0 0], []⟩ 8 (by kernel_rfl) (by kernel_rfl) (by kernel_rfl)
      (x := ([.nil, .lit (.int .i64 0), .lit (.int .i64 0), .nil, .nil], [], [])) (by kernel_rfl) rfl (by kernel_rfl)) ?_
  intro W base args ds gs before hval0 hW hcnd hk0 hsz0 _
  have hval : ∀ (j : Nat) t v, Try.f4.params[j]? = some t → args[j]? = some v → Value.okWide Try.prog W .any base t v := hval0
  have hsz : (DataW.weightsEach Try.prog (Try.f4.params.toList ++ Rows.patchAsksSpec.plain.varTypes Try.prog) (ds ++ gs)).all (· ≤ reachBytes) = true := hsz0
  have hW' := hW
  obtain ⟨p, q, hA0, hV, rfl, hfz, hnd⟩ := hW
  have hA : DataW.TrodAll enc Try.prog W 0 (fun _ => true) true Try.f4.params.toList args.toList ds p := hA0
  rw [Try.params4] at hA hval hsz
  obtain ⟨v0, vs0, d0, ds0, p0, q0, hargs, rfl, rfl, h0, r0⟩ := trodAll_cons hA
  obtain ⟨v1, vs1, d1, ds1, p1, q1, rfl, rfl, rfl, h1, r1⟩ := trodAll_cons r0
  obtain ⟨v2, vs2, d2, ds2, p2, q2, rfl, rfl, rfl, h2, r2⟩ := trodAll_cons r1
  obtain ⟨v3, vs3, d3, ds3, p3, q3, rfl, rfl, rfl, h3, r3⟩ := trodAll_cons r2
  obtain ⟨v4, vs4, d4, ds4, p4, q4, rfl, rfl, rfl, h4, r4⟩ := trodAll_cons r3
  obtain ⟨rfl, rfl, rfl⟩ := trodAll_nil r4
  obtain rfl : args = #[v0, v1, v2, v3, v4] := by cases args; simp_all
  obtain ⟨rfl, rfl⟩ := trodVars_none hV
  have hk : Rows.uptoBulkAll [d0, d1, d2, d3, d4] ≤ 1048576 := of_decide_eq_true hk0
  have k0 := h0
  have lt0 : ∀ x ∈ p0, x.block < W.heap.size := by obtain ⟨m, hm⟩ := k0; exact DataW.trod_lt m _ _ _ hm
  have k1 := h1
  have lt1 : ∀ x ∈ p1, x.block < W.heap.size := by obtain ⟨m, hm⟩ := k1; exact DataW.trod_lt m _ _ _ hm
  have k2 := h2
  have lt2 : ∀ x ∈ p2, x.block < W.heap.size := by obtain ⟨m, hm⟩ := k2; exact DataW.trod_lt m _ _ _ hm
  have k3 := h3
  have lt3 : ∀ x ∈ p3, x.block < W.heap.size := by obtain ⟨m, hm⟩ := k3; exact DataW.trod_lt m _ _ _ hm
  have k4 := h4
  have lt4 : ∀ x ∈ p4, x.block < W.heap.size := by obtain ⟨m, hm⟩ := k4; exact DataW.trod_lt m _ _ _ hm
  obtain ⟨a0, len0, cap0, rfl⟩ := okWide_slice Try.underlying22 (hval 0 22 v0 rfl rfl)
  obtain ⟨b, rfl, rfl, rfl, w1⟩ := open_int Try.underlying3 (hval 1 3 v1 rfl rfl) h1
  obtain ⟨k, rfl, rfl, rfl, w2⟩ := open_int Try.underlying3 (hval 2 3 v2 rfl rfl) h2
  obtain ⟨a3, len3, cap3, rfl⟩ := okWide_slice Try.underlying29 (hval 3 29 v3 rfl rfl)
  obtain ⟨a4, len4, cap4, rfl⟩ := okWide_slice Try.underlying30 (hval 4 30 v4 rfl rfl)
  obtain ⟨D0, hD0⟩ := open_dos (j := 0) h0 hsz rfl rfl
  obtain ⟨N3, hN3⟩ := open_bytes3 (j := 3) h3 hsz rfl rfl
  obtain ⟨N4, hN4⟩ := open_nums (j := 4) h4 hsz rfl rfl
  have hl4 := bulk_ii h4
  have hm4 : len4 ≤ 1048576 := by simp only [Rows.uptoBulkAll] at hk; omega
  clear hA0 hval0
  refine (patchAsks_walk a0 len0 cap0 D0 b k (i64_of w1) (i64_of w2) a3 len3 cap3 N3 a4 len4 cap4 N4 W hD0 hN3 hN4 (by unfold Sm; omega)).mono fun e W' ⟨he, bel⟩ => ?_
  subst he
  exact ⟨_, rfl, _, _, _, [], _, [], hW', trodAll_mk1 (shut_bool Try.underlying4 _), (trodAll_cons_mk (Below.trod laid_out (by kernel_rfl) (of_decide_eq_true (by kernel_rfl)) k0 bel lt0) (trodAll_cons_mk (Below.trod laid_out (by kernel_rfl) (of_decide_eq_true (by kernel_rfl)) k1 bel lt1) (trodAll_cons_mk (Below.trod laid_out (by kernel_rfl) (of_decide_eq_true (by kernel_rfl)) k2 bel lt2) (trodAll_cons_mk (Below.trod laid_out (by kernel_rfl) (of_decide_eq_true (by kernel_rfl)) k3 bel lt3) (trodAll_cons_mk (Below.trod laid_out (by kernel_rfl) (of_decide_eq_true (by kernel_rfl)) k4 bel lt4) trodAll_mk0))))), rfl, bel.frame _, fun h => by cases h⟩

theorem patchAsks_holds : Rows.PatchAsksUptoSaid :=
  OpenClaim.holds_of_cond 4 Try.f4 rfl rfl rfl rfl rfl rfl rfl ⟨rfl, rfl, rfl, rfl, rfl⟩ rfl rfl rfl rfl rfl (by kernel_rfl) Try.func4 (by kernel_rfl)
    (of_decide_eq_true (by kernel_rfl)) (by unfold Func.isWrapper; first | (rw [if_pos (by decide +kernel)]; kernel_rfl) | (rw [if_neg (by decide +kernel)]; exact ⟨rfl, rfl⟩))
    (fun os started H enc _ F => patchAsks_lifted os started H enc F)
#print axioms patchAsks_holds
end Go.Proofs.Yteapkfnklbhdfaa
