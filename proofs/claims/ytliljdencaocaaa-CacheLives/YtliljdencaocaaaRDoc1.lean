/- The document's cache: where a block stands; one taken out; Get of a block that is held. -/
import Derived.Test.YtliljdencaocaaaCOld
namespace Go.Proofs.Ytliljdencaocaaa
open Go.RowKit Go.Maps
set_option linter.unusedVariables false

abbrev BZ := Bu × (Nat × Nat)
/-- The blocks of the document's cache: its own, its row, its rows of bytes. -/
def rcfoot (y : Nat) (lv : Value) (l : List BZ) (k : Nat) : Prop := k = y ∨ lv.ownBlock = some k ∨ ∃ z ∈ l, k = z.2.1
/-- The ones that are written to. -/
def rcw (y : Nat) (lv : Value) (k : Nat) : Prop := k = y ∨ lv.ownBlock = some k

theorem flat3_append (p q : List BZ) : flat3 (p ++ q) = flat3 p ++ flat3 q := by simp [flat3]
theorem flat3_len (l : List BZ) : (flat3 l).length = l.length * 3 := by
  induction l with
  | nil => rfl
  | cons z r ih =>
    show (bu3 z.1 z.2 ++ flat3 r).length = _
    rw [List.length_append, ih, List.length_cons]
    simp [bu3]
    omega
theorem flat3_one (l : List BZ) : ∀ u ∈ flat3 l, u.oneCell' = true := by
  intro u hu
  obtain ⟨z, _, hz⟩ := List.mem_flatMap.1 hu
  simp [bu3] at hz
  rcases hz with rfl | rfl | rfl <;> rfl
theorem flat3_split (l : List BZ) (i : Nat) (hi : i ≤ l.length) : flat3 (l.take i) = (flat3 l).take (i * 3) ∧ flat3 (l.drop i) = (flat3 l).drop (i * 3) := by
  have e := flat3_append (l.take i) (l.drop i)
  rw [List.take_append_drop] at e
  have hl : (flat3 (l.take i)).length = i * 3 := by rw [flat3_len]; simp; omega
  constructor
  · rw [e, List.take_left' hl]
  · rw [e, List.drop_left' hl]
theorem flat3_at (l : List BZ) : ∀ (j c : Nat) (z : BZ), l[j]? = some z → c < 3 → (flat3 l)[j * 3 + c]? = (bu3 z.1 z.2)[c]? := by
  intro j c z hz hc
  have hj := (List.getElem?_eq_some_iff.1 hz).1
  have h1 := (flat3_split l j (by omega)).2
  have e : l.drop j = z :: l.drop (j + 1) := by
    have := (List.getElem?_eq_some_iff.1 hz).2
    rw [← this]
    exact (List.getElem_cons_drop (h := hj)).symm
  rw [← List.getElem?_drop, ← h1, e]
  have : flat3 (z :: l.drop (j + 1)) = bu3 z.1 z.2 ++ flat3 (l.drop (j + 1)) := by simp [flat3]
  rw [this, List.getElem?_append_left (by simp [bu3]; omega)]

section
variable {B : Nat} {w w' : World} {x y : Nat} {lv : Value} {l : List BZ} {A : Ca}
theorem RC.in (h : RC B w y x lv l A) : ∀ k, rcfoot y lv l k → B ≤ k ∧ k < w.heap.size := by
  rintro k (rfl | e | ⟨z, hz, rfl⟩)
  · exact ⟨h.lo, (Array.getElem?_eq_some_iff.1 h.row).1⟩
  · exact h.lst.lt k e
  · exact (h.byt z hz).1.spot
theorem Own.at {g n cap : Nat} {xs : List Int} (h : Own B w g n cap xs) (hb : w'.heap[g]? = w.heap[g]?) : Own B w' g n cap xs :=
  ownsRow_kept h (fun k hk => by simp [Value.ownBlock] at hk; subst hk; exact hb)
theorem RC.kept (h : RC B w y x lv l A) (hb : ∀ k, rcfoot y lv l k → w'.heap[k]? = w.heap[k]?) : RC B w' y x lv l A :=
  { h with row := (hb y (.inl rfl)).trans h.row, lst := ownsRow_kept h.lst (fun k hk => hb k (.inr (.inl hk))), byt := fun z hz => ⟨(h.byt z hz).1.at (hb _ (.inr (.inr ⟨z, hz, rfl⟩))), (h.byt z hz).2⟩ }
theorem RC.later (h : RC B w y x lv l A) (hb : Below w.heap.size w w') : RC B w' y x lv l A := h.kept fun k hk => hb.block k (h.in k hk).2
theorem RC.c0 (h : RC B w y x lv l A) : w.cell? ⟨y, 0, none⟩ = some (.pointer (some ⟨x, 0, none⟩)) := cell_of_row _ _ 0 _ 93 _ h.row
theorem RC.c1 (h : RC B w y x lv l A) : w.cell? ⟨y, 1, none⟩ = some (.int .i64 (A.bd : Int)) := cell_of_row _ _ 1 _ 93 _ h.row
theorem RC.c2 (h : RC B w y x lv l A) : w.cell? ⟨y, 2, none⟩ = some lv := cell_of_row _ _ 2 _ 93 _ h.row
theorem RC.c3 (h : RC B w y x lv l A) : w.cell? ⟨y, 3, none⟩ = some (.int .i64 (A.hi : Int)) := cell_of_row _ _ 3 _ 93 _ h.row
theorem RC.c4 (h : RC B w y x lv l A) : w.cell? ⟨y, 4, none⟩ = some (.int .i64 (A.mi : Int)) := cell_of_row _ _ 4 _ 93 _ h.row
theorem RC.froz (h : RC B w y x lv l A) (j : Nat) : w.frozen? ⟨y, j, none⟩ = false := by simp [World.frozen?, h.row]
theorem RC.shape (h : RC B w y x lv l A) : ∃ p cap, lv = .slice p l.length cap ∧ l.length ≤ cap ∧ (0 < l.length → ∃ g, p = some ⟨g, 0, none⟩) := by
  rcases h.lst.2 with ⟨e, e0⟩ | ⟨g, cap, cur, e, _, _, hc, _⟩
  · rw [e0]; exact ⟨none, 0, e, Nat.le_refl _, fun h => by omega⟩
  · exact ⟨_, cap, e, hc, fun _ => ⟨g, rfl⟩⟩
theorem RC.cells (h : RC B w y x lv l A) {g n cap j : Nat} (hv : lv = .slice (some ⟨g, 0, none⟩) n cap) {z : BZ} (hz : l[j]? = some z) :
    w.cell? ⟨g, j * 3, none⟩ = some (.int .i64 (z.1.b : Int)) ∧ w.cell? ⟨g, j * 3 + 1, none⟩ = some (.int .i64 (z.1.p : Int)) ∧ w.cell? ⟨g, j * 3 + 2, none⟩ = some (.slice (some ⟨z.2.1, 0, none⟩) 128 z.2.2) := by
  have hj := (List.getElem?_eq_some_iff.1 hz).1
  obtain ⟨p', cap', hlv', _⟩ := h.shape
  rw [hv] at hlv'
  obtain ⟨_, rfl, _⟩ := Value.slice.inj hlv'
  have hl := h.lst
  rw [hv] at hl
  have a0 := flat3_at l j 0 z hz (by omega)
  have a1 := flat3_at l j 1 z hz (by omega)
  have a2 := flat3_at l j 2 z hz (by omega)
  have hf := flat3_len l
  exact ⟨(hl.cellAt (j * 3) (show j * 3 < l.length * 3 by omega)).trans a0, (hl.cellAt (j * 3 + 1) (show j * 3 + 1 < l.length * 3 by omega)).trans a1, (hl.cellAt (j * 3 + 2) (show j * 3 + 2 < l.length * 3 by omega)).trans a2⟩

/-- Where the first stands for which t says yes. -/
def fst? (l : List BZ) (t : Bu → Bool) : Int := match l.findIdx? (fun z => t z.1) with | some i => (i : Int) | none => -1
theorem fst_hit {l : List BZ} {t : Bu → Bool} {j : Nat} {z : BZ} (hz : l[j]? = some z) (ht : t z.1 = true) (hno : ∀ (k : Nat) (u : BZ), k < j → l[k]? = some u → t u.1 = false) : fst? l t = (j : Int) := by
  have hj := (List.getElem?_eq_some_iff.1 hz).1
  have e : l.findIdx? (fun z => t z.1) = some j := by
    rw [List.findIdx?_eq_some_iff_getElem]
    refine ⟨hj, ?_, fun k hk => ?_⟩
    · rw [(List.getElem?_eq_some_iff.1 hz).2]; exact ht
    · have := hno k l[k] hk (List.getElem?_eq_getElem (by omega))
      simpa using this
  unfold fst?
  rw [e]
theorem fst_miss {l : List BZ} {t : Bu → Bool} (hno : ∀ (k : Nat) (u : BZ), l[k]? = some u → t u.1 = false) : fst? l t = -1 := by
  have e : l.findIdx? (fun z => t z.1) = none := by
    rw [List.findIdx?_eq_none_iff]
    intro u hu
    obtain ⟨k, hk⟩ := List.mem_iff_getElem?.1 hu
    exact hno k u hk
  unfold fst?
  rw [e]

set_option maxRecDepth 100000 in
set_option maxHeartbeats 1000000 in
theorem rfind_ok (h : RC B w y x lv l A) (b : Int) : Calls Try.prog 70 #[.pointer (some ⟨y, 0, none⟩), .int .i64 b] w fun e w' => e = .returned (.int .i64 (fst? l (fun u => (u.b : Int) == b))) ∧ Below w.heap.size w w' := by
  obtain ⟨p, cap, hlv, hcap, hpg⟩ := h.shape
  have h64 := h.len
  have c2 := h.c2
  rw [hlv] at c2
  obtain ⟨n, hn⟩ : ∃ n, n = l.length := ⟨_, rfl⟩
  rw [← hn] at c2 hlv h64 hpg
  have HN := (show Hid (n = l.length) from hn)
  have HV := (show Hid _ from hlv)
  clear hn hcap hlv
  go_enter Try.func70, Try.ntmps70
  go_wp2_with fail
  go_loopw [12] (fun i wr => ∃ j : Nat, j ≤ n ∧ i = .int .i64 (j : Int) ∧ (∀ (k : Nat) (u : BZ), k < j → l[k]? = some u → ¬ (u.1.b : Int) = b) ∧ Below w.heap.size w wr) (fun i _ => n - (intOf i).toNat)
  case atStart => exact ⟨0, by omega, rfl, fun k u hk => by omega, Below.refl _ _⟩
  case round =>
    obtain ⟨j, hj, rfl, hno, hb⟩ := hrel
    by_cases hlt : j < n
    · obtain ⟨g, rfl⟩ := hpg (by omega)
      obtain ⟨z, hz⟩ : ∃ z, l[j]? = some z := ⟨l[j]'(by have := HN.out; omega), List.getElem?_eq_getElem _⟩
      obtain ⟨e0, e1, e2⟩ := (h.later hb).cells HV.out hz
      have hjI : (j : Int) < (n : Int) := by omega
      have hj0 : (0 : Int) ≤ (j : Int) := by omega
      have HNo := (show Hid _ from hno)
      have HZ := (show Hid _ from hz)
      clear hno hz h
      by_cases he : (z.1.b : Int) = b
      · have HE := (show Hid _ from he)
        rw [he] at e0
        clear he
        go_wp2
        go_ret
        refine ⟨?_, hb.alloc hb.size _⟩
        rw [fst_hit (t := fun u => (u.b : Int) == b) HZ.out (by simpa using HE.out) (fun k u hk hu => by simpa using HNo.out k u hk hu)]
        rfl
      · have HE := (show Hid _ from he)
        obtain ⟨zb, hzb⟩ : ∃ zb, (z.1.b : Int) = zb := ⟨_, rfl⟩
        rw [hzb] at e0 he
        clear hzb
        go_wp2
        go_roundw
        case rel =>
          refine ⟨j + 1, by omega, by go_num, fun k u hk hu => ?_, hb.alloc hb.size _⟩
          rcases Nat.lt_or_eq_of_le (Nat.le_of_lt_succ hk) with h' | rfl
          · exact HNo.out k u h' hu
          · have := HZ.out.symm.trans hu
            cases this
            exact HE.out
        case measure => simp [intOf]; omega
    · obtain rfl : j = n := by omega
      have HNo := (show Hid _ from hno)
      clear hno
      go_wp2
      go_ret
      refine ⟨?_, hb⟩
      rw [fst_miss (t := fun u => (u.b : Int) == b) (fun k u hu => by have := HNo.out k u (by have := HN.out; have := (List.getElem?_eq_some_iff.1 hu).1; omega) hu; simpa using this)]
      rfl
set_option maxRecDepth 100000 in
set_option maxHeartbeats 1000000 in
theorem rvictim_ok (h : RC B w y x lv l A) : Calls Try.prog 72 #[.pointer (some ⟨y, 0, none⟩)] w fun e w' => e = .returned (.int .i64 (fst? l (fun u => u.p == 0))) ∧ Below w.heap.size w w' := by
  obtain ⟨p, cap, hlv, hcap, hpg⟩ := h.shape
  have h64 := h.len
  have c2 := h.c2
  rw [hlv] at c2
  obtain ⟨n, hn⟩ : ∃ n, n = l.length := ⟨_, rfl⟩
  rw [← hn] at c2 hlv h64 hpg
  have HN := (show Hid (n = l.length) from hn)
  have HV := (show Hid _ from hlv)
  clear hn hcap hlv
  go_enter Try.func72, Try.ntmps72
  go_wp2_with fail
  go_loopw [10] (fun i wr => ∃ j : Nat, j ≤ n ∧ i = .int .i64 (j : Int) ∧ (∀ (k : Nat) (u : BZ), k < j → l[k]? = some u → ¬ u.1.p = 0) ∧ Below w.heap.size w wr) (fun i _ => n - (intOf i).toNat)
  case atStart => exact ⟨0, by omega, rfl, fun k u hk => by omega, Below.refl _ _⟩
  case round =>
    obtain ⟨j, hj, rfl, hno, hb⟩ := hrel
    by_cases hlt : j < n
    · obtain ⟨g, rfl⟩ := hpg (by omega)
      obtain ⟨z, hz⟩ : ∃ z, l[j]? = some z := ⟨l[j]'(by have := HN.out; omega), List.getElem?_eq_getElem _⟩
      obtain ⟨e0, e1, e2⟩ := (h.later hb).cells HV.out hz
      have hjI : (j : Int) < (n : Int) := by omega
      have hj0 : (0 : Int) ≤ (j : Int) := by omega
      have HNo := (show Hid _ from hno)
      have HZ := (show Hid _ from hz)
      clear hno hz h
      by_cases he : z.1.p = 0
      · have HE := (show Hid _ from he)
        rw [he] at e1
        clear he
        go_wp2
        go_ret
        refine ⟨?_, hb.alloc hb.size _⟩
        rw [fst_hit (t := fun u => u.p == 0) HZ.out (by simpa using HE.out) (fun k u hk hu => by simpa using HNo.out k u hk hu)]
        rfl
      · have HE := (show Hid _ from he)
        have he' : ¬ (z.1.p : Int) = 0 := by omega
        clear he
        go_wp2
        go_roundw
        case rel =>
          refine ⟨j + 1, by omega, by go_num, fun k u hk hu => ?_, hb.alloc hb.size _⟩
          rcases Nat.lt_or_eq_of_le (Nat.le_of_lt_succ hk) with h' | rfl
          · exact HNo.out k u h' hu
          · have := HZ.out.symm.trans hu
            cases this
            exact HE.out
        case measure => simp [intOf]; omega
    · obtain rfl : j = n := by omega
      have HNo := (show Hid _ from hno)
      clear hno
      go_wp2
      go_ret
      refine ⟨?_, hb⟩
      rw [fst_miss (t := fun u => u.p == 0) (fun k u hu => by have := HNo.out k u (by have := HN.out; have := (List.getElem?_eq_some_iff.1 hu).1; omega) hu; simpa using this)]
      rfl

theorem info95 : (Try.prog.info? 95).map (fun i => (i.zero, i.size, i.bytes)) = some (some (.agg #[.int .i64 0, .int .i64 0, .slice none 0 0]), 3, 40) := by kernel_rfl
/-- Both appends: what stands before place i, and what stands behind it. -/
theorem two_appends3 (h : RC B w y x lv l A) {g n qc i : Nat} (hqv : lv = .slice (some ⟨g, 0, none⟩) n qc) (hn : n = l.length) (hi : i < n) (h64 : n ≤ 64) (ad : Addr) (had : ad = ⟨g, (i + 1) * 3, none⟩ ∨ n = i + 1) (c2 : Nat) :
    ∃ v4 w4 v5 w5, (Builtin.append_ #[91, 91] 91 #[.slice (some ⟨w.heap.size, 0, none⟩) 0 0, .slice (some ⟨g, 0, none⟩) i qc]).run Try.prog (w.alloc (.cells #[] 95)).drew = .ok v4 w4 ∧ (Builtin.append_ #[91, 91] 91 #[v4, .slice (some ad) (n - (i + 1)) c2]).run Try.prog w4 = .ok v5 w5 ∧ Below w.heap.size w w4 ∧ Below w.heap.size w w5 ∧ w5.ownsRow w.heap.size 95 3 v5 (l.eraseIdx i).length (flat3 (l.eraseIdx i)) := by
  obtain ⟨i52, hi52, hz0, hz1, hz2⟩ := info_parts info95
  have b0 : Below w.heap.size w (w.alloc (.cells #[] 95)).drew := ((Below.refl w.heap.size w).alloc (Nat.le_refl _) (.cells #[] 95)).drew
  have hq0 := h.lst
  rw [hqv, ← hn] at hq0
  have hgl := (hq0.lt g rfl).2
  have hlen := flat3_len l
  have hcell : ∀ {W : World}, Below w.heap.size w W → ∀ (j : Nat) (u : Value), (flat3 l)[j]? = some u → W.cell? ⟨g, j, none⟩ = some u := fun hW j u hu => by
    rw [hW.cell (p := ⟨g, j, none⟩) hgl, hq0.cellAt j (by have := (List.getElem?_eq_some_iff.1 hu).1; omega), hu]
  have hsp1 := flat3_split l i (by omega)
  have hsp2 := flat3_split l (i + 1) (by omega)
  have hmade : ((w.alloc (.cells #[] 95)).drew).ownsRow w.heap.size 95 3 (.slice (some ⟨w.heap.size, 0, none⟩) 0 0) 0 [] := World.ownsRow_made w #[] 0 (Nat.le_refl _) (Nat.zero_le _) rfl
  obtain ⟨v4, w4, hr4, ho4, hg4, _⟩ := run_append_own (P := Try.prog) (w.alloc (.cells #[] 95)).drew w.heap.size 91 91 95 i52 _ 3 40 Try.underlying91 hi52 hz0 hz1 hz2 rfl (by decide) _ 0 [] hmade ⟨g, 0, none⟩ i qc ((flat3 l).take (i * 3)) (by rw [List.length_take, hlen]; omega)
    (fun j u hu => by
      rw [Addr.add_mid, Nat.zero_add]
      have hj : j < i * 3 := by have := (List.getElem?_eq_some_iff.1 hu).1; rw [List.length_take] at this; omega
      rw [List.getElem?_take_of_lt hj] at hu
      exact hcell b0 j u hu)
    (fun u hu => flat3_one l u (List.mem_of_mem_take hu)) (by unfold maxLen; omega) (by omega) b0.size
  have b4 : Below w.heap.size w w4 := b0.grown hg4 b0.size (fun k hk => (hmade.lt k hk).1)
  rw [Nat.zero_add, List.nil_append] at ho4
  obtain ⟨v5, w5, hr5, ho5, hg5, _⟩ := run_append_own (P := Try.prog) w4 w.heap.size 91 91 95 i52 _ 3 40 Try.underlying91 hi52 hz0 hz1 hz2 rfl (by decide) v4 i _ ho4 ad (n - (i + 1)) c2 ((flat3 l).drop ((i + 1) * 3)) (by rw [List.length_drop, hlen]; omega)
    (fun j u hu => by
      rcases had with rfl | e
      · rw [Addr.add_mid]
        rw [List.getElem?_drop] at hu
        exact hcell b4 _ u hu
      · rw [List.drop_of_length_le (by rw [hlen]; omega)] at hu
        simp at hu)
    (fun u hu => flat3_one l u (List.mem_of_mem_drop hu)) (by unfold maxLen; omega) (by omega) b4.size
  refine ⟨v4, w4, v5, w5, hr4, hr5, b4, b4.grown hg5 b4.size (fun k hk => (ho4.lt k hk).1), ?_⟩
  have e1 : (l.eraseIdx i).length = i + (n - (i + 1)) := by rw [List.length_eraseIdx_of_lt (by omega)]; omega
  rw [e1, ← erase_split, flat3_append, hsp1.1, hsp2.2]
  exact ho5

/-- A new row of buffers is laid into the cache. -/
theorem RC.newL (h : RC B w y x lv l A) (hy : w'.heap[y]? = w.heap[y]?) {v : Value} {l' : List BZ} (hown : w'.ownsRow B 95 3 v l'.length (flat3 l')) (hbyt : ∀ z ∈ l', Own B w' z.2.1 128 z.2.2 z.1.xs ∧ Sect z.1.xs) (hlen : l'.length ≤ 64) (hps : ∀ z ∈ l', z.1.p ≤ 100) :
    RC B (w'.setCell ⟨y, 2, none⟩ v) y x v l' { A with l := l'.map (·.1) } := by
  have hr := hy.trans h.row
  refine { row := ?_, lst := ?_, eq := rfl, byt := fun z hz => ⟨?_, (hbyt z hz).2⟩, lo := h.lo, bd := h.bd, len := hlen, cnt := h.cnt, ps := hps }
  · rw [heap_setCell_same w' y 2 _ 93 _ hr]
    simp
  · refine ownsRow_kept hown (fun k hk => Below.heap_setCell w' ⟨y, 2, none⟩ v k ?_)
    rintro rfl
    obtain ⟨cs, e⟩ := own_ty hown hk
    rw [hr] at e
    simp at e
  · refine (hbyt z hz).1.at (Below.heap_setCell w' ⟨y, 2, none⟩ v _ ?_)
    rintro e
    obtain ⟨cs, e'⟩ := own_ty (hbyt z hz).1 (k := z.2.1) rfl
    rw [e, hr] at e'
    simp at e'

set_option maxRecDepth 100000 in
set_option maxHeartbeats 2000000 in
theorem without_ok (h : RC B w y x lv l A) (hB : B ≤ w.heap.size) (i : Nat) (hi : i < l.length) :
    Calls Try.prog 71 #[.pointer (some ⟨y, 0, none⟩), .int .i64 (i : Int)] w fun e w' => ∃ v lv', e = .returned v ∧ RC B w' y x lv' (l.eraseIdx i) { A with l := (l.eraseIdx i).map (·.1) } ∧ Frame (fun k => k = y) w w' ∧ (∀ k, lv'.ownBlock = some k → w.heap.size ≤ k) := by
  obtain ⟨qp, qc, hqv, hcap, hpg⟩ := h.shape
  obtain ⟨g, rfl⟩ := hpg (by omega)
  have h64 := h.len
  obtain ⟨n, hn⟩ : ∃ n, n = l.length := ⟨_, rfl⟩
  have HN := (show Hid (n = l.length) from hn)
  rw [← hn] at hqv hi h64 hcap
  clear hn hpg
  have HQ := (show Hid (lv = .slice (some ⟨g, 0, none⟩) n qc) from hqv)
  have hiI : (i : Int) < (n : Int) := by omega
  have hi0 : (0 : Int) ≤ (i : Int) := by omega
  have hiw : IntKind.i64.wrap ((i : Int) + 1) = (i : Int) + 1 := by rw [IntKind.wrap_i64]; omega
  have hiq : (i : Int) ≤ (qc : Int) := by omega
  have hi1 : (i : Int) + 1 ≤ (n : Int) := by omega
  have hcap2 : n - (i + 1) ≤ qc - (i + 1) := by omega
  have hi2 : (0 : Int) ≤ (i : Int) + 1 := by omega
  obtain ⟨ad, hif, had⟩ : ∃ ad : Addr, (if qc = i + 1 then some ⟨g, 0, none⟩ else some ⟨g, (i + 1) * 3, none⟩) = some ad ∧ (ad = ⟨g, (i + 1) * 3, none⟩ ∨ n = i + 1) := by
    by_cases e : qc = i + 1
    · exact ⟨_, if_pos e, .inr (by omega)⟩
    · exact ⟨_, if_neg e, .inl rfl⟩
  obtain ⟨v4, w4, v5, w5, hr4, hr5, b4, b5, ho5⟩ := two_appends3 h HQ.out HN.out hi h64 ad had (qc - (i + 1))
  have hn2 := h.newL (b5.block y (Array.getElem?_eq_some_iff.1 h.row).1) (ownsRow_base ho5 hB) (fun z hz => ⟨((h.byt z (List.mem_of_mem_eraseIdx hz)).1.kept b5), (h.byt z (List.mem_of_mem_eraseIdx hz)).2⟩) (Nat.le_trans (List.length_eraseIdx_le _ _) h.len) (fun z hz => h.ps z (List.mem_of_mem_eraseIdx hz))
  obtain ⟨m5, hm5⟩ : ∃ m, (l.eraseIdx i).length = m := ⟨_, rfl⟩
  rw [hm5] at ho5
  obtain ⟨p5, c5, rfl⟩ := slice_shape ho5
  have hlo := fun k hk => (ho5.lt k hk).1
  clear hm5
  have hf : Frame (fun k => k = y) w (w5.setCell ⟨y, 2, none⟩ (.slice p5 m5 c5)) := (frame_of_below b5).trans (Frame.setCell w5 (p := ⟨y, 2, none⟩) _ rfl)
  have hd := h.later (Below.refl _ _).drew
  have h3 := h.later (((Below.refl w.heap.size w).alloc (Nat.le_refl _) (.cells #[] 95)).drew)
  have h4 := h.later b4
  have h5 := h.later b5
  have k0 := h.c2
  have k1 := hd.c2
  have k2 := h3.c2
  have k3 := h4.c2
  have k4 := h5.c2
  have f5 := h5.froz 2
  rw [HQ.out] at k0 k1 k2 k3 k4
  have HR4 := (show Hid _ from hr4)
  have HR5 := (show Hid _ from hr5)
  have HN2 := (show Hid _ from hn2)
  have HLO := (show Hid _ from hlo)
  clear hr4 hr5 hn2 ho5 hd h3 h4 h5 h hqv hlo
  go_enter Try.func71, Try.ntmps71
  go_wp2_with fail
  go_region_law
    (first
      | (refine step_append_run (by rfl) _ _ 91 91 (by rfl) _ _ (by rfl) (by rfl) _ _ HR4.out ?_)
      | (refine step_append_run (by rfl) _ _ 91 91 (by rfl) _ _ (by rfl) (by rfl) _ _ HR5.out ?_))
  all_goals (
    go_wp2
    first | go_end0 | (refine bodyPost_ret (results_none rfl _ _ _) rfl ?_)
    exact ⟨_, _, rfl, HN2.out, hf, HLO.out⟩)
end

theorem info5w : (Try.prog.info? 5).map (fun i => (i.zero, i.size, i.bytes)) = some (some (.int .u8 0), 1, 1) := by kernel_rfl

/-- append([]byte{}, s...): a copy of its own. -/
theorem run_copy {w : World} (ty : TypeId) (a : Addr) (c : Nat) (xs : List Int) (h : BI w (some a) 128 xs) :
    ∃ g cap w', (Builtin.append_ #[29, 29] ty #[.slice (some ⟨w.heap.size, 0, none⟩) 0 0, .slice (some a) 128 c]).run Try.prog (w.alloc (.cells #[] 5)) = .ok (.slice (some ⟨g, 0, none⟩) 128 cap) w' ∧ Own w.heap.size w' g 128 cap xs ∧ Below w.heap.size w w' := by
  obtain ⟨i0, hi, hz0, hz1, hz2⟩ := info_parts info5w
  have hb0 := (Below.refl w.heap.size w).alloc (Nat.le_refl _) (Obj.cells #[] 5)
  have hl := h.len
  obtain ⟨v', w', hr, ho, hg, _⟩ := run_append_own (P := Try.prog) (w.alloc (.cells #[] 5)) w.heap.size 29 ty 5 i0 (.int .u8 0) 1 1 Try.underlying29 hi hz0 hz1 hz2 rfl (by decide) _ 0 [] (World.ownsRow_made w #[] 0 (Nat.le_refl _) (Nat.zero_le _) rfl) a 128 c (xs.map (Value.int .u8)) (by simp [hl])
    (fun j u hu => by
      have hj : j < xs.length := by have := (List.getElem?_eq_some_iff.1 hu).1; simpa using this
      obtain ⟨b, o, e, hc⟩ := (h.kept hb0).cells (by omega)
      cases e
      rw [Addr.add_mid, hc j (by omega), ← hu]
      simp [List.getD_eq_getElem?_getD, hj])
    (by intro u hu; obtain ⟨x, _, rfl⟩ := List.mem_map.1 hu; rfl) (by unfold maxLen; omega) (by omega) (by simp)
  rw [Nat.zero_add, List.nil_append] at ho
  obtain ⟨p, cap, rfl⟩ := slice_shape ho
  rcases ho.2 with ⟨e, _⟩ | ⟨g, cap', cur, e, r⟩
  · cases e
  · obtain ⟨rfl, _, rfl⟩ := Value.slice.inj e
    exact ⟨g, cap, w', hr, ⟨ho.1, .inr ⟨g, cap, cur, rfl, r⟩⟩, hb0.grown hg hb0.size (fun k hk => by simp [Value.ownBlock] at hk; omega)⟩

section
variable {B : Nat} {w w' : World} {x y : Nat} {lv bv qv fv : Value} {l : List BZ} {gB gQ : List (Nat × Nat)} {A : Ca} {S : St}
/-- One more buffer behind all others. -/
theorem run_push3 (ty : TypeId) (h : RC B w y x lv l A) (hB : B ≤ w.heap.size) (h64 : l.length < 64) (z : BZ) (hw : ∀ c, c < 3 → w'.cell? ⟨w.heap.size, c, none⟩ = (bu3 z.1 z.2)[c]?) (hb : Below w.heap.size w w') :
    ∃ g cap w'', (Builtin.append_ #[91, 91] ty #[lv, .slice (some ⟨w.heap.size, 0, none⟩) 1 1]).run Try.prog w' = .ok (.slice (some ⟨g, 0, none⟩) (l.length + 1) cap) w'' ∧ w''.ownsRow B 95 3 (.slice (some ⟨g, 0, none⟩) (l.length + 1) cap) (l ++ [z]).length (flat3 (l ++ [z])) ∧ w'.grownBy w'' lv.ownBlock ∧
      (lv.ownBlock = some g ∨ w.heap.size ≤ g) := by
  obtain ⟨i52, hi52, hz0, hz1, hz2⟩ := info_parts info95
  have hq0 := (h.later hb).lst
  have hf1 : flat3 [z] = bu3 z.1 z.2 := by simp [flat3]
  have hsz := hb.size
  obtain ⟨g, cap, w'', hr, ho, hg, hat, _⟩ := run_append_lies (P := Try.prog) w' 91 ty B 95 i52 _ 3 40 Try.underlying91 hi52 hz0 hz1 hz2 rfl (by decide) lv l.length _ hq0 ⟨w.heap.size, 0, none⟩ 1 1 (bu3 z.1 z.2) rfl
    (fun j u hu => by
      have hj : j < 3 := by have := (List.getElem?_eq_some_iff.1 hu).1; simpa [bu3] using this
      rw [Addr.add_mid, Nat.zero_add, hw j hj]; exact hu)
    (fun u hu => by rw [← hf1] at hu; exact flat3_one [z] u hu) (by omega) (by unfold maxLen; omega) (by omega) (by omega) _ rfl
  exact ⟨g, cap, w'', hr, by rw [List.length_append, flat3_append, hf1]; exact ho, hg, hat.imp id (fun e => by omega)⟩

theorem RC.hits (h : RC B w y x lv l A) (hc : A.hi + A.mi < 4611686018427387904) : RC B (w.setCell ⟨y, 3, none⟩ (.int .i64 ((A.hi : Int) + 1))) y x lv l { A with hi := A.hi + 1 } := by
  have hk : ∀ k, k ≠ y → (w.setCell ⟨y, 3, none⟩ (.int .i64 ((A.hi : Int) + 1))).heap[k]? = w.heap[k]? := fun k hk => Below.heap_setCell w ⟨y, 3, none⟩ _ k hk
  refine { row := ?_, lst := ownsRow_kept h.lst (fun k e => hk k ?_), eq := h.eq, byt := fun z hz => ⟨(h.byt z hz).1.at (hk _ ?_), (h.byt z hz).2⟩, lo := h.lo, bd := h.bd, len := h.len, cnt := by show A.hi + 1 + A.mi ≤ _; omega, ps := h.ps }
  · rw [heap_setCell_same w y 3 _ 93 _ h.row]; simp
  · rintro rfl
    obtain ⟨cs, e'⟩ := own_ty h.lst e
    rw [h.row] at e'; simp at e'
  · rintro e
    obtain ⟨cs, e'⟩ := own_ty (h.byt z hz).1 (k := z.2.1) rfl
    rw [e, h.row] at e'; simp at e'
theorem RC.misses (h : RC B w y x lv l A) (hc : A.hi + A.mi < 4611686018427387904) : RC B (w.setCell ⟨y, 4, none⟩ (.int .i64 ((A.mi : Int) + 1))) y x lv l { A with mi := A.mi + 1 } := by
  have hk : ∀ k, k ≠ y → (w.setCell ⟨y, 4, none⟩ (.int .i64 ((A.mi : Int) + 1))).heap[k]? = w.heap[k]? := fun k hk => Below.heap_setCell w ⟨y, 4, none⟩ _ k hk
  refine { row := ?_, lst := ownsRow_kept h.lst (fun k e => hk k ?_), eq := h.eq, byt := fun z hz => ⟨(h.byt z hz).1.at (hk _ ?_), (h.byt z hz).2⟩, lo := h.lo, bd := h.bd, len := h.len, cnt := by show A.hi + (A.mi + 1) ≤ _; omega, ps := h.ps }
  · rw [heap_setCell_same w y 4 _ 93 _ h.row]; simp
  · rintro rfl
    obtain ⟨cs, e'⟩ := own_ty h.lst e
    rw [h.row] at e'; simp at e'
  · rintro e
    obtain ⟨cs, e'⟩ := own_ty (h.byt z hz).1 (k := z.2.1) rfl
    rw [e, h.row] at e'; simp at e'

set_option maxHeartbeats 400000 in
theorem rget_arg (h : RC B w y x lv l A) (hr : RI B w x bv qv fv gB gQ S) (hN : 1 ≤ S.N) (b : Int) (hb : b < 0 ∨ (S.N : Int) ≤ b) : Calls Try.prog 38 #[.pointer (some ⟨y, 0, none⟩), .int .i64 b] w fun e w' => e = .returned (.tuple #[.slice none 0 0, .int .i64 1]) ∧ w' = w := by
  have c0 := h.c0
  obtain ⟨gb, cb, hbv⟩ := hr.bcase hN
  have d0 := hr.c0
  rw [hbv] at d0
  clear hbv
  by_cases h0 : b < 0
  · clear hb
    go_enter Try.func38, Try.ntmps38
    go_wp2
    go_ret2
    exact ⟨rfl, rfl⟩
  · have h1 : (S.N : Int) ≤ b := by omega
    have h0 : 0 ≤ b := by omega
    clear hb
    go_enter Try.func38, Try.ntmps38
    go_wp2
    go_ret2
    exact ⟨rfl, rfl⟩

set_option maxHeartbeats 4000000 in
theorem rget_hit (h : RC B w y x lv l A) (hB : B ≤ w.heap.size) (hr : RI B w x bv qv fv gB gQ S) (hN : 1 ≤ S.N) (b : Nat) (hb : b < S.N) (i : Nat) (z : BZ) (hz : l[i]? = some z) (hf : fst? l (fun u => (u.b : Int) == (b : Int)) = (i : Int)) (hc : A.hi + A.mi < 4611686018427387904) :
    Calls Try.prog 38 #[.pointer (some ⟨y, 0, none⟩), .int .i64 (b : Int)] w fun e w' => ∃ g cap lv', e = .returned (.tuple #[.slice (some ⟨g, 0, none⟩) 128 cap, .int .i64 0]) ∧ Own w.heap.size w' g 128 cap z.1.xs ∧ RC B w' y x lv' (l.eraseIdx i ++ [z]) { A with hi := A.hi + 1, l := (l.eraseIdx i ++ [z]).map (·.1) } ∧ Frame (fun k => k = y) w w' := by
  have c0 := h.c0
  obtain ⟨gb, cb, hbv⟩ := hr.bcase hN
  have d0 := hr.c0
  rw [hbv] at d0
  have hfind := rfind_ok h (b : Int)
  rw [hf] at hfind
  have hil := (List.getElem?_eq_some_iff.1 hz).1
  have h64 := h.len
  have hbI : (b : Int) < (S.N : Int) := by omega
  have hb0 : (0 : Int) ≤ (b : Int) := by omega
  have hi0 : (0 : Int) ≤ (i : Int) := by omega
  have hil1 : (i : Int) < (l.length : Int) := by omega
  obtain ⟨qp, qc, hqv, hcap, hpg⟩ := h.shape
  obtain ⟨gl, rfl⟩ := hpg (by omega)
  obtain ⟨n, hn⟩ : ∃ n, n = l.length := ⟨_, rfl⟩
  have HN := (show Hid (n = l.length) from hn)
  rw [← hn] at hqv hil1
  have HZ := (show Hid _ from hz)
  have HV := (show Hid _ from hqv)
  have hwr : IntKind.i64.wrap ((A.hi : Int) + 1) = (A.hi : Int) + 1 := by rw [IntKind.wrap_i64]; omega
  have HB := (show Hid _ from hB)
  have HIL := (show Hid _ from hil)
  have H64 := (show Hid _ from h64)
  have HC := (show Hid _ from hc)
  have HH := (show Hid _ from h)
  have HF := (show Hid _ from hfind)
  clear hbv hn hpg hcap hf hqv hz hc h hfind hr hB h64 hil
  go_enter Try.func38, Try.ntmps38
  go_wp2_with fail
  refine Calls.mono HF.out ?_
  rintro e w1 ⟨rfl, hb1⟩
  have h1 := HH.out.later hb1
  have c3 := h1.c3
  have fz3 := h1.froz 3
  have h2 := h1.hits HC.out
  have c2 := h2.c2
  rw [HV.out] at c2
  obtain ⟨e0, e1, e2⟩ := h2.cells HV.out HZ.out
  go_wp2_with fail
  have hs2 : (w1.setCell ⟨y, 3, none⟩ (.int .i64 ((A.hi : Int) + 1))).heap.size = w1.heap.size := by simp
  have hf2 : Frame (fun k => k = y) w (w1.setCell ⟨y, 3, none⟩ (.int .i64 ((A.hi : Int) + 1))) := (frame_of_below hb1).trans (Frame.setCell w1 (p := ⟨y, 3, none⟩) _ rfl)
  rw [← hs2]
  clear c3 fz3 c2 e0 e1 e2 h1
  generalize w1.setCell ⟨y, 3, none⟩ (.int .i64 ((A.hi : Int) + 1)) = w2 at *
  have hbA := (Below.refl w2.heap.size w2).alloc (Nat.le_refl _) (.cells #[.int .i64 (z.1.b : Int), .int .i64 (z.1.p : Int), .slice (some ⟨z.2.1, 0, none⟩) 128 z.2.2] 95)
  have h3 := h2.later hbA
  have hbx := World.alloc_heap_new w2 (.cells #[.int .i64 (z.1.b : Int), .int .i64 (z.1.p : Int), .slice (some ⟨z.2.1, 0, none⟩) 128 z.2.2] 95)
  have hf3 := hf2.trans (frame_of_below hbA)
  have hTy : w2.heap.size ≠ y := by have := (Array.getElem?_eq_some_iff.1 h2.row).1; omega
  have hTw : w.heap.size ≤ w2.heap.size := hf2.size
  clear hbA h2 hf2 hs2 hb1
  generalize w2.alloc (.cells #[.int .i64 (z.1.b : Int), .int .i64 (z.1.p : Int), .slice (some ⟨z.2.1, 0, none⟩) 128 z.2.2] 95) = w3 at *
  generalize w2.heap.size = T at *
  have hwo := without_ok h3 (Nat.le_trans HB.out hf3.size) i HIL.out
  refine Calls.mono hwo ?_
  rintro e w4 ⟨v, lv4, rfl, h4, hf4, hlo4⟩
  have hbx4 := (hf4.block T (Array.getElem?_eq_some_iff.1 hbx).1 hTy).trans hbx
  have hf04 := hf3.trans hf4
  have hlo : ∀ k, lv4.ownBlock = some k → w.heap.size ≤ k := fun k hk => Nat.le_trans hf3.size (hlo4 k hk)
  have hTlv : ¬ lv4.ownBlock = some T := fun e => by have := hlo4 T e; have := (Array.getElem?_eq_some_iff.1 hbx).1; omega
  clear hwo h3 hbx hlo4 hf4 hf3
  obtain ⟨LE, hLE⟩ : ∃ LE, l.eraseIdx i = LE := ⟨_, rfl⟩
  have hle64 : LE.length < 64 := by rw [← hLE, List.length_eraseIdx_of_lt HIL.out]; have := H64.out; have := HIL.out; omega
  rw [hLE] at h4
  have HLE := (show Hid _ from hLE)
  clear hLE
  have hB4 : B ≤ w4.heap.size := Nat.le_trans HB.out hf04.size
  obtain ⟨p4, cap4, hlv4, hcp4, _⟩ := h4.shape
  have hbW : Below w4.heap.size w4 ((w4.alloc (.cells #[.int .i64 (z.1.b : Int), .int .i64 (z.1.p : Int), .slice (some ⟨z.2.1, 0, none⟩) 128 z.2.2] 95)).drew) := ((Below.refl w4.heap.size w4).alloc (Nat.le_refl _) _).drew
  have hrowW : ((w4.alloc (.cells #[.int .i64 (z.1.b : Int), .int .i64 (z.1.p : Int), .slice (some ⟨z.2.1, 0, none⟩) 128 z.2.2] 95)).drew).heap[w4.heap.size]? = some (.cells #[.int .i64 (z.1.b : Int), .int .i64 (z.1.p : Int), .slice (some ⟨z.2.1, 0, none⟩) 128 z.2.2] 95 (0, 0)) := World.alloc_heap_new w4 _
  obtain ⟨g5, cap5, w5, hr5, ho5, hg5, hat5⟩ := run_push3 91 h4 hB4 hle64 z (w' := (w4.alloc (.cells #[.int .i64 (z.1.b : Int), .int .i64 (z.1.p : Int), .slice (some ⟨z.2.1, 0, none⟩) 128 z.2.2] 95)).drew) (fun c hc => by
    rw [cell_of_row _ _ c _ 95 _ hrowW]; rcases (by omega : c = 0 ∨ c = 1 ∨ c = 2) with rfl | rfl | rfl <;> rfl) hbW
  have hW := h4.later hbW
  have hf5 : Frame (fun k => lv4.ownBlock = some k) w4 w5 := (frame_of_below hbW).trans (frame_of_grown hg5 (fun k hk => hk))
  have hlvt : ∀ k, lv4.ownBlock = some k → ∃ cs, w4.heap[k]? = some (.cells cs 95 (0, 0)) := fun k hk => own_ty h4.lst hk
  have hy5 : w5.heap[y]? = w4.heap[y]? := hf5.block y (Array.getElem?_eq_some_iff.1 h4.row).1 (fun e => by obtain ⟨cs, e'⟩ := hlvt y e; rw [h4.row] at e'; simp at e')
  have hbyt5 : ∀ u ∈ LE ++ [z], Own B w5 u.2.1 128 u.2.2 u.1.xs ∧ Sect u.1.xs := by
    intro u hu
    have hou : Own B w4 u.2.1 128 u.2.2 u.1.xs ∧ Sect u.1.xs := by
      rcases List.mem_append.1 hu with hu | hu
      · exact h4.byt u hu
      · simp at hu
        subst hu
        obtain ⟨q1, q2⟩ := HH.out.byt u (List.mem_of_getElem? HZ.out)
        refine ⟨q1.at (hf04.block _ q1.spot.2 ?_), q2⟩
        rintro rfl
        obtain ⟨cs, e'⟩ := own_ty q1 (k := u.2.1) rfl
        rw [HH.out.row] at e'; simp at e'
    refine ⟨hou.1.at (hf5.block _ hou.1.spot.2 (fun e => ?_)), hou.2⟩
    obtain ⟨cs, e'⟩ := hlvt _ e
    obtain ⟨cs2, e2⟩ := own_ty hou.1 (k := u.2.1) rfl
    rw [e'] at e2; simp at e2
  have h6 := h4.newL hy5 ho5 hbyt5 (by rw [List.length_append]; simp; omega) (fun u hu => by
    rcases List.mem_append.1 hu with hu | hu
    · exact h4.ps u hu
    · simp at hu; subst hu; exact HH.out.ps u (List.mem_of_getElem? HZ.out))
  have hf6 : Frame (fun k => k = y) w (w5.setCell ⟨y, 2, none⟩ (.slice (some ⟨g5, 0, none⟩) (LE.length + 1) cap5)) :=
    (frame_far hf04 hf5 hlo).trans (Frame.setCell w5 (p := ⟨y, 2, none⟩) _ rfl)
  have hbx5 := (hf5.block T (Array.getElem?_eq_some_iff.1 hbx4).1 hTlv).trans hbx4
  have hbx6 := (Below.heap_setCell w5 ⟨y, 2, none⟩ (.slice (some ⟨g5, 0, none⟩) (LE.length + 1) cap5) T hTy).trans hbx5
  have hbxW := (hbW.block T (Array.getElem?_eq_some_iff.1 hbx4).1).trans hbx4
  have hbx4d : w4.drew.heap[T]? = _ := hbx4
  have t0 : w4.drew.cell? ⟨T, 0, none⟩ = some (.int .i64 (z.1.b : Int)) := cell_of_row _ _ 0 _ 95 _ hbx4d
  have t1 : w4.drew.cell? ⟨T, 1, none⟩ = some (.int .i64 (z.1.p : Int)) := cell_of_row _ _ 1 _ 95 _ hbx4d
  have t2 : w4.drew.cell? ⟨T, 2, none⟩ = some (.slice (some ⟨z.2.1, 0, none⟩) 128 z.2.2) := cell_of_row _ _ 2 _ 95 _ hbx4d
  have q0 : w4.drew.cell? ⟨y, 2, none⟩ = some lv4 := h4.c2
  have q1 := hW.c2
  have q5 : w5.cell? ⟨y, 2, none⟩ = some lv4 := (World.cell?_of_block (a := ⟨y, 2, none⟩) hy5).trans h4.c2
  have f5 : w5.frozen? ⟨y, 2, none⟩ = false := (World.frozen?_of_block (a := ⟨y, 2, none⟩) hy5).trans (h4.froz 2)
  rw [hlv4] at q0 q1 q5
  have HR5 := (show Hid _ from hr5)
  rw [hlv4] at HR5
  obtain ⟨m4, hm4⟩ : ∃ m4, LE.length = m4 := ⟨_, rfl⟩
  rw [hm4] at q0 q1 q5 HR5 h6 hf6 hbx6
  have H6 := (show Hid _ from h6)
  have HBX := (show Hid _ from hbx6)
  have HOZ := (show Hid _ from (HH.out.byt z (List.mem_of_getElem? HZ.out)))
  clear hbx5 hbxW hbx4d hrowW h6 hbyt5 hlvt hg5 ho5 hr5 hW hbW hbx6 hm4 hle64 hlv4 hcp4 hf5 hy5 h4 hat5
  go_wp2_with fail
  go_region_law (refine step_append_run (by rfl) _ _ 91 91 (by rfl) _ _ (by rfl) (by rfl) _ _ HR5.out ?_)
  all_goals (
    clear q0 q1 q5 f5 t0 t1 t2 HR5 hbx4
    generalize w5.setCell ⟨y, 2, none⟩ (.slice (some ⟨g5, 0, none⟩) (m4 + 1) cap5) = w6 at *
    obtain ⟨q1, q2⟩ := H6.out.byt z (by simp)
    obtain ⟨g9, cap9, w9, hr9, ho9, hb9⟩ := run_copy 29 ⟨z.2.1, 0, none⟩ z.2.2 z.1.xs (q1.bi (by omega) q2.2)
    have bT := (((Below.refl w6.heap.size w6).alloc (Nat.le_refl _) (.cells #[] 5)).block T (Array.getElem?_eq_some_iff.1 HBX.out).1).trans HBX.out
    have b2 : (w6.alloc (.cells #[] 5)).cell? ⟨T, 2, none⟩ = some (.slice (some ⟨z.2.1, 0, none⟩) 128 z.2.2) := cell_of_row _ _ 2 _ 95 _ bT
    have HR9 := (show Hid _ from hr9)
    clear hr9 q1 q2 bT
    go_wp2_with (at_builtin; refine wpList_plain rfl fun _ hK' => Lib.wp_append_run _ _ _ 29 29 rfl _ _ rfl rfl _ _ HR9.out (hK' _ _ ?_))
    go_ret2
    refine ⟨g9, cap9, .slice (some ⟨g5, 0, none⟩) (m4 + 1) cap5, rfl, ho9.base hf6.size, ?_, hf6.trans (frame_of_below hb9)⟩
    rw [HLE.out]
    exact H6.out.later hb9)
end
end Go.Proofs.Ytliljdencaocaaa
