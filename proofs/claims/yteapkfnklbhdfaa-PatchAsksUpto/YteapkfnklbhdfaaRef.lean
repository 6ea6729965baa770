/- The document's set of patches, in memory; single questions of it. -/
import Derived.Test.YteapkfnklbhdfaaLaw
namespace Go.Proofs.Yteapkfnklbhdfaa
open Go.RowKit Go.Maps
set_option linter.unusedVariables false

/-- The cells of a row of patches. -/
def flat5 : List Pv → List Value
  | [] => []
  | p :: l => .int .i64 (p.id : Int) :: .int .i64 (p.blk : Int) :: .int .i64 (p.off : Int) :: .slice p.bp p.bs.length p.bc :: .slice p.np p.nd.length p.nc :: flat5 l
theorem flat5_len : ∀ l : List Pv, (flat5 l).length = 5 * l.length
  | [] => rfl
  | p :: l => by simp [flat5, flat5_len l]; omega
theorem flat5_app : ∀ l m : List Pv, flat5 (l ++ m) = flat5 l ++ flat5 m
  | [], m => rfl
  | p :: l, m => by simp [flat5, flat5_app l m]
theorem flat5_at : ∀ (l : List Pv) (i : Nat) (p : Pv), l[i]? = some p → (flat5 l)[i * 5]? = some (.int .i64 (p.id : Int)) ∧ (flat5 l)[i * 5 + 1]? = some (.int .i64 (p.blk : Int)) ∧ (flat5 l)[i * 5 + 2]? = some (.int .i64 (p.off : Int)) ∧ (flat5 l)[i * 5 + 3]? = some (.slice p.bp p.bs.length p.bc) ∧ (flat5 l)[i * 5 + 4]? = some (.slice p.np p.nd.length p.nc)
  | [], i, p, h => by cases h
  | q :: l, 0, p, h => by
    simp at h
    subst h
    exact ⟨rfl, rfl, rfl, rfl, rfl⟩
  | q :: l, i + 1, p, h => by
    have := flat5_at l i p (by simpa using h)
    have e : ∀ j, (i + 1) * 5 + j = i * 5 + j + 1 + 1 + 1 + 1 + 1 := fun j => by omega
    have e0 := e 0
    rw [Nat.add_zero, Nat.add_zero] at e0
    rw [e 1, e 2, e 3, e 4, e0]
    exact this

/-- Block x is the document's set. lv: where its row lies. -/
structure RZ (B : Nat) (w : World) (x : Nat) (lv : Value) (last : Nat) (L : List Pv) : Prop where
  row : w.heap[x]? = some (.cells #[lv, .int .i64 (last : Int)] 28 (0, 0))
  lst : w.ownsRow B 44 5 lv L.length (flat5 L)
  byt : ∀ p ∈ L, BI w p.bp p.bs.length p.bs ∧ Plain p.bp
  nee : ∀ p ∈ L, II w p.np p.nd.length p.nd ∧ Plain p.np
  apart : ∀ p ∈ L, ∀ k, (blkOf p.np = some k ∨ blkOf p.bp = some k) → k < w.heap.size ∧ k ≠ x ∧ lv.ownBlock ≠ some k
  ids : ∀ p ∈ L, 1 ≤ p.id ∧ p.id ≤ last ∧ p.blk ≤ 9223372036854775807 ∧ 1 ≤ p.bs.length ∧ p.off + p.bs.length ≤ 128
  srt : L.Pairwise (fun p q => p.id < q.id)
  low : ∀ p ∈ L, ∀ y ∈ p.nd, 1 ≤ y ∧ y < (p.id : Int)
  sml : last ≤ 1000
  base : B ≤ x

section
variable {B : Nat} {w : World} {x : Nat} {lv : Value} {last : Nat} {L : List Pv}
theorem RZ.kept {w' : World} (h : RZ B w x lv last L) (hb : Below w.heap.size w w') : RZ B w' x lv last L := by
  refine ⟨?_, ?_, fun p hp => ⟨(h.byt p hp).1.kept hb, (h.byt p hp).2⟩, fun p hp => ⟨(h.nee p hp).1.kept hb, (h.nee p hp).2⟩, fun p hp k hk => ⟨Nat.lt_of_lt_of_le (h.apart p hp k hk).1 hb.size, (h.apart p hp k hk).2⟩, h.ids, h.srt, h.low, h.sml, h.base⟩
  · rw [hb.block x (Array.getElem?_eq_some_iff.1 h.row).1]; exact h.row
  · exact row_keptIf h.lst (fun g hg => hb.block g (h.lst.lt g hg).2)
theorem RZ.c0 (h : RZ B w x lv last L) : w.cell? ⟨x, 0, none⟩ = some lv := by rw [cell_of_row _ _ 0 _ 28 _ h.row]; rfl
theorem RZ.c1 (h : RZ B w x lv last L) : w.cell? ⟨x, 1, none⟩ = some (.int .i64 (last : Int)) := by rw [cell_of_row _ _ 1 _ 28 _ h.row]; rfl
theorem RZ.lt (h : RZ B w x lv last L) : x < w.heap.size := (Array.getElem?_eq_some_iff.1 h.row).1
theorem RZ.len (h : RZ B w x lv last L) : L.length ≤ last := len_ids (m := 0) h.srt (fun p hp => ⟨(h.ids p hp).1, (h.ids p hp).2.1⟩)
end

/-- A row of patches, as it is gone through. -/
def Rows5 (w : World) (q : Option Addr) (L : List Pv) : Prop := 0 < L.length → ∃ g, q = some ⟨g, 0, none⟩ ∧ ∀ i p, L[i]? = some p → w.cell? ⟨g, i * 5, none⟩ = some (.int .i64 (p.id : Int)) ∧ w.cell? ⟨g, i * 5 + 1, none⟩ = some (.int .i64 (p.blk : Int)) ∧ w.cell? ⟨g, i * 5 + 2, none⟩ = some (.int .i64 (p.off : Int)) ∧ w.cell? ⟨g, i * 5 + 3, none⟩ = some (.slice p.bp p.bs.length p.bc) ∧ w.cell? ⟨g, i * 5 + 4, none⟩ = some (.slice p.np p.nd.length p.nc)
theorem rows5_of {B : Nat} {w : World} {lv : Value} {L : List Pv} (h : w.ownsRow B 44 5 lv L.length (flat5 L)) : ∃ q c, lv = .slice q L.length c ∧ Rows5 w q L := by
  rcases h.2 with ⟨h', h0⟩ | ⟨g, cap, cur, h', hbg, hg, rest⟩
  · exact ⟨none, 0, by rw [h', h0], fun hp => by omega⟩
  · refine ⟨_, _, h', fun _ => ⟨g, rfl, fun i p hp => ?_⟩⟩
    have hc : ∀ j v, (flat5 L)[j]? = some v → w.cell? ⟨g, j, none⟩ = some v := fun j v hv => by
      rw [cell_of_row _ _ j _ 44 _ hg]
      have hj : j < L.length * 5 := by have := (List.getElem?_eq_some_iff.1 hv).1; rw [flat5_len] at this; omega
      rw [← rest.2.2.2, List.getElem?_take_of_lt hj] at hv
      rw [← Array.getElem?_toList]
      exact hv
    obtain ⟨f0, f1, f2, f3, f4⟩ := flat5_at L i p hp
    exact ⟨hc _ _ f0, hc _ _ f1, hc _ _ f2, hc _ _ f3, hc _ _ f4⟩
theorem Rows5.at {w wr : World} {q : Option Addr} {L : List Pv} (h : Rows5 w q L) (hb : Below w.heap.size w wr) {j : Nat} {p : Pv} (hp : L[j]? = some p) : ∃ g, q = some ⟨g, 0, none⟩ ∧ wr.cell? ⟨g, j * 5, none⟩ = some (.int .i64 (p.id : Int)) ∧ wr.cell? ⟨g, j * 5 + 1, none⟩ = some (.int .i64 (p.blk : Int)) ∧ wr.cell? ⟨g, j * 5 + 2, none⟩ = some (.int .i64 (p.off : Int)) ∧ wr.cell? ⟨g, j * 5 + 3, none⟩ = some (.slice p.bp p.bs.length p.bc) ∧ wr.cell? ⟨g, j * 5 + 4, none⟩ = some (.slice p.np p.nd.length p.nc) := by
  obtain ⟨g, e, hc⟩ := h (by have := (List.getElem?_eq_some_iff.1 hp).1; omega)
  have hgl := lt_of_cell (hc j p hp).1
  have hk : ∀ i, wr.cell? ⟨g, i, none⟩ = w.cell? ⟨g, i, none⟩ := fun i => hb.cell (p := ⟨g, i, none⟩) hgl
  obtain ⟨d0, d1, d2, d3, d4⟩ := hc j p hp
  rw [← hk] at d0 d1 d2 d3 d4
  exact ⟨g, e, d0, d1, d2, d3, d4⟩
theorem below_box {w wr : World} {B : Nat} (h : Below B w wr) (hB : B ≤ wr.heap.size) (o : Obj) : Below B w (wr.alloc o) := h.alloc hB o

/-- The place of a patch. -/
def fi (L : List Pv) (k : Int) : Int := match L.findIdx? (fun p => decide ((p.id : Int) = k)) with
  | some i => (i : Int)
  | none => -1
theorem fi_at {L : List Pv} {k : Int} {j : Nat} {p : Pv} (hp : L[j]? = some p) (hk : (p.id : Int) = k) (hno : ∀ q ∈ L.take j, (q.id : Int) ≠ k) : fi L k = (j : Int) := by
  have hj := (List.getElem?_eq_some_iff.1 hp).1
  have : L.findIdx? (fun p => decide ((p.id : Int) = k)) = some j := by
    rw [List.findIdx?_eq_some_iff_getElem]
    refine ⟨hj, ?_, fun i hi => ?_⟩
    · have e : L[j] = p := by rw [List.getElem?_eq_getElem hj] at hp; exact Option.some.inj hp
      rw [e]; exact decide_eq_true hk
    · have := hno L[i] (List.mem_take_iff_getElem.2 ⟨i, by omega, rfl⟩)
      simpa using this
  unfold fi
  rw [this]
theorem fi_none {L : List Pv} {k : Int} (hno : ∀ q ∈ L, (q.id : Int) ≠ k) : fi L k = -1 := by
  have : L.findIdx? (fun p => decide ((p.id : Int) = k)) = none := by
    rw [List.findIdx?_eq_none_iff]
    intro q hq
    simpa using hno q hq
  unfold fi
  rw [this]

section
variable {B : Nat} {w : World} {x : Nat} {lv : Value} {last : Nat} {L : List Pv}

set_option maxRecDepth 100000 in
set_option maxHeartbeats 2000000 in
theorem rfind_ok (h : RZ B w x lv last L) (k : Int) : Calls Try.prog 48 #[.pointer (some ⟨x, 0, none⟩), .int .i64 k] w fun e w' => e = .returned (.int .i64 (fi L k)) ∧ Below w.heap.size w w' := by
  have c0 := h.c0
  obtain ⟨q, c, rfl, hr⟩ := rows5_of h.lst
  have hlen := h.len
  have hsml := h.sml
  clear h
  go_enter Try.func48, Try.ntmps48
  go_wp2_with fail
  go_loopw [12] (fun i wr => ∃ j : Nat, j ≤ L.length ∧ i = .int .i64 (j : Int) ∧ Below w.heap.size w wr ∧ Hid (∀ p ∈ L.take j, (p.id : Int) ≠ k)) (fun i _ => L.length - (intOf i).toNat)
  case atStart => exact ⟨0, by omega, rfl, Below.refl _ _, fun p hp => by cases hp⟩
  case round =>
    obtain ⟨j, hj, rfl, hb, hno⟩ := hrel
    by_cases hlt : j < L.length
    · obtain ⟨p, hp⟩ : ∃ p, L[j]? = some p := ⟨_, List.getElem?_eq_getElem hlt⟩
      obtain ⟨g, rfl, d0, d1, d2, d3, d4⟩ := hr.at hb hp
      have hjI : (j : Int) < (L.length : Int) := by omega
      have hj0 : (0 : Int) ≤ (j : Int) := by omega
      have hbA := below_box hb hb.size (.cells #[.int .i64 (p.id : Int), .int .i64 (p.blk : Int), .int .i64 (p.off : Int), .slice p.bp p.bs.length p.bc, .slice p.np p.nd.length p.nc] 44)
      have HP : Hid _ := hp
      clear hp
      by_cases hid : (p.id : Int) = k
      · have HE : Hid (fi L k = (j : Int)) := fi_at HP.out hid hno.out
        have hq : ((p.id : Int) == k) = true := beq_iff_eq.2 hid
        clear hno hid
        go_wp2_with fail
        go_ret
        exact ⟨by rw [HE.out]; rfl, hbA⟩
      · have HN : Hid (∀ q ∈ L.take (j + 1), (q.id : Int) ≠ k) := fun q hq => by
          rw [List.take_add_one, HP.out] at hq
          rcases List.mem_append.1 hq with hq | hq
          · exact hno.out q hq
          · simp at hq; subst hq; exact hid
        clear hno
        go_wp2_with fail
        go_roundw
        case rel => exact ⟨j + 1, by omega, by go_num, hbA, HN⟩
        case measure => simp [intOf]; omega
    · obtain rfl : j = L.length := by omega
      have HE : Hid (fi L k = -1) := fi_none (fun q hq => hno.out q (by rw [List.take_length]; exact hq))
      clear hno
      go_wp2_with fail
      go_ret
      exact ⟨by rw [HE.out]; rfl, hb⟩

theorem rlast_ok (h : RZ B w x lv last L) : Calls Try.prog 12 #[.pointer (some ⟨x, 0, none⟩)] w fun e w' => e = .returned (.int .i64 (last : Int)) ∧ w' = w := by
  have c1 := h.c1
  clear h
  go_enter Try.func12, Try.ntmps12
  go_wp2_with fail
  go_ret
  exact ⟨rfl, rfl⟩

theorem rhas_ok {w : World} {p : Option Addr} {n c : Nat} {zs : List Int} (hz : II w p n zs) (k : Int) : Calls Try.prog 63 #[.slice p n c, .int .i64 k] w fun e w' => e = .returned (.bool (decide (k ∈ zs))) ∧ w' = w := by
  have hl := hz.len
  have hb := hz.big
  go_enter Try.func63, Try.ntmps63
  go_wp2_with fail
  go_loopw [9] (fun i wr => wr = w ∧ ∃ j : Nat, j ≤ n ∧ i = .int .i64 (j : Int) ∧ Hid (k ∉ zs.take j)) (fun i _ => n - (intOf i).toNat)
  case atStart => exact ⟨rfl, 0, by omega, rfl, fun h => by cases h⟩
  case round =>
    obtain ⟨rfl, j, hj, rfl, hno⟩ := hrel
    by_cases hlt : j < n
    · obtain ⟨b1, o1, rfl, hc1⟩ := hz.cells (by omega)
      have e1 := hc1 j hlt
      have HT : Hid (zs.take (j + 1) = zs.take j ++ [zs.getD j 0]) := take_one (by omega)
      have HM : Hid (zs.getD j 0 ∈ zs) := getD_mem' (by omega)
      have hjI : (j : Int) < (n : Int) := by omega
      have hj0 : (0 : Int) ≤ (j : Int) := by omega
      clear hc1 hz
      generalize zs.getD j 0 = y at *
      by_cases hy : y = k
      · have HE : Hid (decide (k ∈ zs) = true) := decide_eq_true (by rw [← hy]; exact HM.out)
        clear hno
        go_wp2_with fail
        go_ret
        exact ⟨by rw [HE.out]; rfl, rfl⟩
      · have HN : Hid (k ∉ zs.take (j + 1)) := fun h => by
          rw [HT.out] at h
          rcases List.mem_append.1 h with h | h
          · exact hno.out h
          · exact hy (List.mem_singleton.1 h).symm
        clear hno
        go_wp2_with fail
        go_roundw
        case rel => exact ⟨trivial, j + 1, by omega, by go_num, HN⟩
        case measure => simp [intOf]; omega
    · obtain rfl : j = n := by omega
      have HE : Hid (decide (k ∈ zs) = false) := decide_eq_false (fun h => hno.out (by rw [List.take_of_length_le (by omega)]; exact h))
      clear hno hz
      go_wp2_with fail
      go_ret
      exact ⟨by rw [HE.out]; rfl, rfl⟩

def rovl (p q : Pv) : Bool := decide ((p.blk : Int) = (q.blk : Int)) && (decide ((p.off : Int) < (endP q : Int)) && decide ((q.off : Int) < (endP p : Int)))
set_option maxHeartbeats 1000000 in
theorem roverlap_ok (p q : Pv) (w : World) (hp : p.off + p.bs.length ≤ 128) (hq : q.off + q.bs.length ≤ 128) : Calls Try.prog 74 #[p.v, q.v] w fun e w' => e = .returned (.bool (rovl p q)) ∧ Below w.heap.size w w' := by
  have hb2 : Below w.heap.size w ((w.alloc (.cells #[.int .i64 (p.id : Int), .int .i64 (p.blk : Int), .int .i64 (p.off : Int), .slice p.bp p.bs.length p.bc, .slice p.np p.nd.length p.nc] 44)).alloc (.cells #[.int .i64 (q.id : Int), .int .i64 (q.blk : Int), .int .i64 (q.off : Int), .slice q.bp q.bs.length q.bc, .slice q.np q.nd.length q.nc] 44)) := ((Below.refl _ _).alloc (Nat.le_refl _) _).alloc (by simp) _
  have HB : Hid _ := hb2
  clear hb2
  have e1 : ((q.off + q.bs.length : Nat) : Int) = (q.off : Int) + (q.bs.length : Int) := by omega
  have e2 : ((p.off + p.bs.length : Nat) : Int) = (p.off : Int) + (p.bs.length : Int) := by omega
  unfold Pv.v Pv.cells
  by_cases h1 : (p.blk : Int) = (q.blk : Int)
  · by_cases h2 : (p.off : Int) < (q.off : Int) + (q.bs.length : Int)
    · by_cases h3 : (q.off : Int) < (p.off : Int) + (p.bs.length : Int)
      · have HE : Hid (rovl p q = true) := by show _ = _; unfold rovl endP; rw [e1, e2, decide_eq_true h1, decide_eq_true h2, decide_eq_true h3]; rfl
        have hq : ((p.blk : Int) == (q.blk : Int)) = true := beq_iff_eq.2 h1
        clear e1 e2 h1
        go_enter Try.func74, Try.ntmps74
        go_wp2_with fail
        go_ret
        exact ⟨by rw [HE.out]; rfl, HB.out⟩
      · have HE : Hid (rovl p q = false) := by show _ = _; unfold rovl endP; rw [e1, e2, decide_eq_true h1, decide_eq_true h2, decide_eq_false h3]; rfl
        have hq : ((p.blk : Int) == (q.blk : Int)) = true := beq_iff_eq.2 h1
        clear e1 e2 h1
        go_enter Try.func74, Try.ntmps74
        go_wp2_with fail
        go_ret
        exact ⟨by rw [HE.out]; rfl, HB.out⟩
    · have HE : Hid (rovl p q = false) := by show _ = _; unfold rovl endP; rw [e1, e2, decide_eq_true h1, decide_eq_false h2]; rfl
      have hq : ((p.blk : Int) == (q.blk : Int)) = true := beq_iff_eq.2 h1
      clear e1 e2 h1
      go_enter Try.func74, Try.ntmps74
      go_wp2_with fail
      go_ret
      exact ⟨by rw [HE.out]; rfl, HB.out⟩
  · have HE : Hid (rovl p q = false) := by show _ = _; unfold rovl endP; rw [decide_eq_false h1]; rfl
    clear e1 e2
    go_enter Try.func74, Try.ntmps74
    go_wp2_with fail
    go_ret
    exact ⟨by rw [HE.out]; rfl, HB.out⟩
end
end Go.Proofs.Yteapkfnklbhdfaa
