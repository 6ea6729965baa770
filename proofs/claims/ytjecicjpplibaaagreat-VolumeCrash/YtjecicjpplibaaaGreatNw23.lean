/- PEach -/
import Derived.Test.YtjecicjpplibaaaGreatNw22

/- A block's patches gone through, whatever is done with each. -/
namespace Go.Proofs.YtjecicjpplibaaaGreat.Pt
open Go.RowKit Go.Maps
set_option maxRecDepth 100000
set_option linter.unusedVariables false

set_option maxRecDepth 100000 in
set_option maxHeartbeats 2000000 in
theorem each52_ok {B : Nat} {w0 w : World} {a mp mb last : Nat} {P : List Pv} {K : Int → Option Value} (h0 : PS B w0 a mp mb last P K) (g : Nat) (J : List Pv → World → Prop) (b : Int) (hb : I64 b)
    (hJ : ∀ pre w', J pre w' → Below w0.heap.size w0 w')
    (hS : ∀ pre p w', J pre w' → p ∈ P → Calls Tryz.prog 133 #[p.v, .pointer (some ⟨g, 0, none⟩)] w' fun e w2 => e = .returned (.tuple #[]) ∧ J (pre ++ [p]) w2)
    (h : J [] w) :
    Calls Tryz.prog 132 #[.pointer (some ⟨a, 0, none⟩), .int .i64 b, .func (.func 133) #[] #[.pointer (some ⟨g, 0, none⟩)]] w
      fun e w' => e = .returned (.tuple #[]) ∧ J (ofB P b) w' := by
  have hps := h0.kept (hJ _ _ h)
  have c2 := hps.c2
  have hl := hps.list b hb
  obtain ⟨q, c, e, hii, hpl⟩ := h0.row_ii b hb
  rw [e] at hl
  have hsml := hps.sml
  have hlen : (idsOf P b).length ≤ 1000 := by
    have h1 := hps.len
    have h3 : (ofB P b).length ≤ P.length := List.length_filter_le _ _
    rw [idsOf_eq, List.length_map]
    omega
  obtain ⟨L, hL⟩ : ∃ L, L = ofB P b := ⟨_, rfl⟩
  have hn : (idsOf P b).length = L.length := by rw [hL, idsOf_eq, List.length_map]
  have hmem : ∀ p ∈ L, p ∈ P := fun p hp => by rw [hL] at hp; exact (List.mem_filter.1 hp).1
  rw [idsOf_eq, ← hL] at hii
  rw [hn] at hl hlen
  rw [List.length_map] at hii
  rw [← hL]
  obtain ⟨n, hnL⟩ : ∃ n, n = L.length := ⟨_, rfl⟩
  rw [← hnL] at hl hlen hii
  have HNL : Hid _ := hnL
  have HII := fun pre w' (hj : J pre w') => hii.kept (hJ pre w' hj)
  clear e hn hnL hL
  go_enter Tryz.func132, Tryz.ntmps132
  go_wp2_with fail
  go_loopw [15] (fun i wr => ∃ (j : Nat), j ≤ n ∧ i = .int .i64 (j : Int) ∧ J (L.take j) wr) (fun i _ => n - (intOf i).toNat)
  case atStart => exact ⟨0, by omega, rfl, h⟩
  case round =>
    clear h hps c2 hl hii
    obtain ⟨j, hj, rfl, hI⟩ := hrel
    have hps := h0.kept (hJ _ _ hI)
    by_cases hlt : j < n
    · have hjL : j < L.length := by rw [← HNL.out]; exact hlt
      obtain ⟨b1, o1, rfl, hc1⟩ := (HII _ _ hI).cells (by omega)
      have e1 := hc1 j hlt
      rw [getD_map_ids L j hjL] at e1
      obtain ⟨p, hp⟩ : ∃ p, p = L[j] := ⟨_, rfl⟩
      rw [← hp] at e1
      have hpP : p ∈ P := hmem p (by rw [hp]; exact List.getElem_mem hjL)
      have hid := hps.ids p hpP
      have c1 := hps.c1
      have hg := hps.get (p.id : Int) ⟨by omega, by omega⟩
      rw [fP_mem hps.srt hpP] at hg
      have hg' : (Instr.lookup 119 (.map (some mp)) (.int .i64 (p.id : Int)) false).run Tryz.prog wr = .ok p.v wr := hg
      have hplan := hS _ p wr hI hpP
      have HT : Hid (L.take (j + 1) = L.take j ++ [p]) := by show _ = _; rw [List.take_add_one, List.getElem?_eq_getElem hjL, hp]; rfl
      have hjI : (j : Int) < (n : Int) := by omega
      have hj0 : (0 : Int) ≤ (j : Int) := by omega
      clear hc1 hg hp hps hI hid HII hS hJ h0
      generalize p.v = pv at *
      go_wp2_with (first | (go_at_call 133; refine hplan.mono ?_; rintro e w2 ⟨rfl, hI3⟩))
      go_roundw
      case rel =>
        refine ⟨j + 1, by omega, by go_num, ?_⟩
        rw [HT.out]
        exact hI3
      case measure => simp [intOf]; omega
    · obtain rfl : j = n := by omega
      rw [List.take_of_length_le (by rw [← HNL.out]; exact Nat.le_refl _)] at hI
      clear HII hS hJ h0 hps
      go_wp2
      go_end0
      exact ⟨rfl, hI⟩

/-- What Now's closure stands in. -/
structure NI (B T : Nat) (w0 w : World) (a mp mb last : Nat) (P : List Pv) (K : Int → Option Value) (go ob cap : Nat) (out : List Int) : Prop where
  ps : PS B w0 a mp mb last P K
  bel : Below T w0 w
  sz : w0.heap.size = T
  ro : w.heap[go]? = some (.cells #[.slice (some ⟨ob, 0, none⟩) 128 cap] 42 (0, 0))
  own : Own T w ob 128 cap out
  byt : Num.Byt out
theorem NI.hT {B T : Nat} {w0 w : World} {a mp mb last : Nat} {P : List Pv} {K : Int → Option Value} {go ob cap : Nat} {out : List Int} (h : NI B T w0 w a mp mb last P K go ob cap out) : T ≤ w.heap.size := by have := h.bel.size; rw [h.sz] at this; exact this

/-- The bytes of a block with patches over them. -/
def ovrs : List Pv → List Int → List Int
  | [], xs => xs
  | p :: l, xs => ovrs l (ovr xs p)
theorem ovrs_snoc : ∀ (l : List Pv) (p : Pv) (xs : List Int), ovrs (l ++ [p]) xs = ovr (ovrs l xs) p
  | [], _, _ => rfl
  | q :: l, p, xs => by rw [List.cons_append]; exact ovrs_snoc l p _

theorem NI.kept {B T : Nat} {w0 w w' : World} {a mp mb last : Nat} {P : List Pv} {K : Int → Option Value} {go ob cap : Nat} {out : List Int} (h : NI B T w0 w a mp mb last P K go ob cap out) (hb : Below w.heap.size w w') : NI B T w0 w' a mp mb last P K go ob cap out :=
  ⟨h.ps, h.bel.trans (hb.mono h.hT), h.sz, by rw [hb.block _ ((Array.getElem?_eq_some_iff.1 h.ro).1)]; exact h.ro, h.own.kept hb, h.byt⟩

theorem now1_ok {B T : Nat} {w0 w : World} {a mp mb last : Nat} {P : List Pv} {K : Int → Option Value} {go ob cap : Nat} {out : List Int} (h : NI B T w0 w a mp mb last P K go ob cap out) (p : Pv) (hp : p ∈ P) :
    Calls Tryz.prog 133 #[p.v, .pointer (some ⟨go, 0, none⟩)] w fun e w' => e = .returned (.tuple #[]) ∧ NI B T w0 w' a mp mb last P K go ob cap (ovr out p) := by
  obtain ⟨W, hW⟩ : ∃ W, w.alloc (.cells p.cells 134) = W := ⟨_, rfl⟩
  have hbW : Below w.heap.size w W := by rw [← hW]; exact (Below.refl _ w).alloc (Nat.le_refl _) _
  have hI := h.kept hbW
  have hb := hI.bel
  rw [← h.sz] at hb
  have hps := h.ps.kept hb
  have hid := hps.ids p hp
  have hlay := lay_ok hI.own p (hps.byt p hp).1 hid.2.2.2.1 hid.2.2.2.2
  have co : W.cell? ⟨go, 0, none⟩ = some (.slice (some ⟨ob, 0, none⟩) 128 cap) := by rw [cell_of_row _ _ 0 _ 42 _ hI.ro]; rfl
  have hrow : W.heap[w.heap.size]? = some (.cells p.cells 134 (0, 0)) := by rw [← hW]; exact at_new rfl
  have HB : Hid (Num.Byt p.bs) := (hps.byt p hp).1.byt
  have hv : p.v = .agg p.cells := rfl
  clear hid hps hb
  go_enter Tryz.func133, Tryz.ntmps133
  go_wp2_with (first
    | (refine wpList_load_row rfl 134 (.tmp 2) rfl w.heap.size rfl 134 p.cells (0, 0) _ hrow Tryz.underlying134 rfl info44 ?_)
    | (go_at_call 134; refine hlay.mono ?_; rintro e w2 ⟨rfl, ho, hF⟩))
  go_end0
  obtain ⟨cs, h5⟩ := own_row5 hI.own
  exact ⟨rfl, h.ps, frame_below hI.bel hI.hT hF hI.own.spot.1, h.sz, by rw [hF.block go ((Array.getElem?_eq_some_iff.1 hI.ro).1) (own_ne hI.ro h5 (by decide))]; exact hI.ro, ho, ovr_byt h.byt HB.out⟩

set_option maxRecDepth 100000 in
set_option maxHeartbeats 2000000 in
theorem now_ok {B : Nat} {w : World} {a mp mb last : Nat} {P : List Pv} {K : Int → Option Value} (h : PS B w a mp mb last P K) (b : Int) (hb : I64 b) (p : Option Addr) (c : Nat) (xs : List Int) (hx : BI w p 128 xs) :
    Calls Tryz.prog 100 #[.pointer (some ⟨a, 0, none⟩), .int .i64 b, .slice p 128 c] w fun e w' => ∃ g cap, e = .returned (.tuple #[.slice (some ⟨g, 0, none⟩) 128 cap, .int .i64 0]) ∧ Own w.heap.size w' g 128 cap (ovrs (ofB P b) xs) ∧ Below w.heap.size w w' := by
  have hr := refusal_ok h p 128 c
  rw [if_pos rfl] at hr
  have hcl := bclone_ok p 128 c xs w hx (by omega)
  go_enter Tryz.func100, Tryz.ntmps100
  go_wp2_with (first | (go_at_call 131; refine same_at hr ?_))
  refine hcl.mono ?_
  rintro e w1 ⟨ob, cap, rfl, hown, hb1⟩
  obtain ⟨W2, hW2⟩ : ∃ W2, w1.alloc (Obj.cells #[.slice (some ⟨ob, 0, none⟩) 128 cap] 42) = W2 := ⟨_, rfl⟩
  have hs1 := hb1.size
  have hb2 : Below w1.heap.size w1 W2 := by rw [← hW2]; exact (Below.refl _ w1).alloc (Nat.le_refl _) _
  have hNI : NI B w.heap.size w W2 a mp mb last P K w1.heap.size ob cap xs := ⟨h, hb1.trans (hb2.mono hs1), rfl, by rw [← hW2]; exact at_new rfl, hown.kept hb2, hx.byt⟩
  have hea := each52_ok h w1.heap.size (fun pre w' => NI B w.heap.size w w' a mp mb last P K w1.heap.size ob cap (ovrs pre xs)) b hb (fun pre w' hj => hj.bel) (fun pre p w' hj hp => (now1_ok hj p hp).mono (fun e w2 hh => by rw [ovrs_snoc]; exact hh)) hNI
  clear hNI hb2 hown hb1 hcl hr hx h
  go_wp2_with fail
  refine hea.mono ?_
  rintro e w3 ⟨rfl, hI⟩
  have co : w3.cell? ⟨w1.heap.size, 0, none⟩ = some (.slice (some ⟨ob, 0, none⟩) 128 cap) := by rw [cell_of_row _ _ 0 _ 42 _ hI.ro]; rfl
  have HI : Hid _ := hI
  clear hI hea
  go_wp2_with fail
  go_ret2
  have hI := HI.out
  exact ⟨ob, cap, rfl, hI.own, hI.bel⟩

theorem now_arg {B : Nat} {w : World} {a mp mb last : Nat} {P : List Pv} {K : Int → Option Value} (h : PS B w a mp mb last P K) (b : Int) (p : Option Addr) (n c : Nat) (hn : n ≠ 128) (hn2 : n ≤ 9223372036854775807) :
    Calls Tryz.prog 100 #[.pointer (some ⟨a, 0, none⟩), .int .i64 b, .slice p n c] w fun e w' => e = .returned (.tuple #[.slice none 0 0, .int .i64 1]) ∧ w' = w := by
  have hr := refusal_ok h p n c
  rw [if_neg hn] at hr
  clear h
  go_enter Tryz.func100, Tryz.ntmps100
  go_wp2_with (first | (go_at_call 131; refine same_at hr ?_))
  go_ret2
  exact ⟨rfl, rfl⟩
end Go.Proofs.YtjecicjpplibaaaGreat.Pt
