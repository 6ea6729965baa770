/- The document's disk: Crash. -/
import Derived.Test.YtnbknoibelajaabRefSet
import Derived.Test.YtnbknoibelajaabCrash
namespace Go.Proofs.Ytnbknoibelajaab
open Go.RowKit Go.Maps

theorem crash_sect {q : List Wr} (hq : ∀ y ∈ q, Sect y.bytes) : ∀ (ids : List Int) (f : Nat → List Int), (∀ b, Sect (f b)) → ∀ b, Sect (ids.foldl (crash1 q) f b)
  | [], f, hf => hf
  | id :: ids, f, hf => by
    refine crash_sect hq ids _ (fun b => ?_)
    unfold crash1
    cases hy : q.find? (fun y => y.id == id) with
    | some y =>
      show Sect (upd f y.block y.bytes b)
      unfold upd
      split
      · exact hq y (List.mem_of_find?_eq_some hy)
      · exact hf b
    | none => exact hf b

theorem Ok.withF {S : St} (h : Ok S) {F : Nat → List Int} (hF : ∀ b, Sect (F b)) : Ok { S with f := F } := ⟨h.N1, h.N2, h.q64, h.qok, h.lok, hF, h.fl⟩

section
variable {B : Nat} {w w' : World} {x : Nat} {bv qv fv : Value} {gB gQ : List (Nat × Nat)} {S : St}

set_option maxRecDepth 10000 in
set_option maxHeartbeats 1000000 in
theorem rcrash_none (h : RI B w x bv qv fv gB gQ S) (hS : Ok S) (p : Option Addr) (n c : Nat) (ids : List Int) (hI : II w p n ids) (hno : ∃ id ∈ ids, S.q.findIdx? (fun y => y.id == id) = none) :
    Calls Try.prog 36 #[.pointer (some ⟨x, 0, none⟩), .slice p n c] w fun e w' => e = .returned (.int .i64 20) ∧ Below w.heap.size w w' := by
  have hbig := hI.big
  have hlen := hI.len
  go_enter Try.func36, Try.ntmps36
  go_wp2_with fail
  go_loopw [12] (fun i wr => ∃ j : Nat, j ≤ n ∧ i = .int .i64 (j : Int) ∧ Below w.heap.size w wr ∧ ∀ id ∈ ids.take j, S.q.findIdx? (fun y => y.id == id) ≠ none) (fun i _ => n - (intOf i).toNat)
  case atStart => exact ⟨0, by omega, rfl, Below.refl _ _, by simp⟩
  case round =>
    obtain ⟨j, hj, rfl, hb, hall⟩ := hrel
    by_cases hlt : j < n
    · obtain ⟨bb, oo, rfl, hic⟩ := hI.cells (by omega)
      have hid := (hb.cell (p := ⟨bb, oo + j, none⟩) (lt_of_cell (hic j hlt))).trans (hic j hlt)
      obtain ⟨id, hide⟩ : ∃ id, ids.getD j 0 = id := ⟨_, rfl⟩
      rw [hide] at hid
      have hidj : ids[j]? = some id := by rw [← hide, List.getD_eq_getElem?_getD, List.getElem?_eq_getElem (by omega)]; rfl
      clear hide hic
      have hr := h.later hb
      have hjI : (j : Int) < (n : Int) := by omega
      go_wp2_with fail
      refine Calls.mono (find_ok hr hS id) ?_
      rintro e w3 ⟨rfl, hb3⟩
      cases hfi : S.q.findIdx? (fun y => y.id == id) with
      | none =>
        rw [idx_none hfi]
        go_wp2
        go_ret
        exact ⟨rfl, hb.trans (hb3.mono hb.size)⟩
      | some i =>
        rw [idx_some hfi]
        have hi0 : (0 : Int) ≤ (i : Int) := by omega
        go_wp2
        go_roundw
        case rel =>
          refine ⟨j + 1, by omega, by go_num, hb.trans (hb3.mono hb.size), ?_⟩
          intro id' hid'
          rw [List.take_add_one, hidj] at hid'
          rcases List.mem_append.1 hid' with h' | h'
          · exact hall id' h'
          · simp at h'
            subst h'
            rw [hfi]; simp
        case measure => simp [intOf]; omega
    · exfalso
      obtain ⟨id, hm, hi⟩ := hno
      exact hall id (by rw [List.take_of_length_le (by omega)]; exact hm) hi

theorem zeros_at {wr w5 : World} (hb : Below ((wr.alloc (.cells #[.int .i64 0, .int .i64 0, .slice none 0 0] 52)).drew).heap.size (wr.alloc (.cells #[.int .i64 0, .int .i64 0, .slice none 0 0] 52)).drew w5) :
    w5.cell? ⟨wr.heap.size, 0, none⟩ = some (.int .i64 0) ∧ w5.cell? ⟨wr.heap.size, 1, none⟩ = some (.int .i64 0) ∧ w5.cell? ⟨wr.heap.size, 2, none⟩ = some (.slice none 0 0) ∧ w5.frozen? ⟨wr.heap.size, 0, none⟩ = false ∧ w5.frozen? ⟨wr.heap.size, 1, none⟩ = false ∧ w5.frozen? ⟨wr.heap.size, 2, none⟩ = false := by
  have hT : w5.heap[wr.heap.size]? = some (.cells #[.int .i64 0, .int .i64 0, .slice none 0 0] 52 (0, 0)) := (hb.block wr.heap.size (by show wr.heap.size < (wr.alloc (.cells #[.int .i64 0, .int .i64 0, .slice none 0 0] 52)).heap.size; simp)).trans (at_new rfl)
  refine ⟨?_, ?_, ?_, ?_, ?_, ?_⟩
  · rw [cell_of_row _ _ 0 _ _ _ hT]; rfl
  · rw [cell_of_row _ _ 1 _ _ _ hT]; rfl
  · rw [cell_of_row _ _ 2 _ _ _ hT]; rfl
  all_goals simp [World.frozen?, hT]

theorem stored3 {wr w5 : World} (hb : Below ((wr.alloc (.cells #[.int .i64 0, .int .i64 0, .slice none 0 0] 52)).drew).heap.size (wr.alloc (.cells #[.int .i64 0, .int .i64 0, .slice none 0 0] 52)).drew w5) (a b c : Value) :
    Below wr.heap.size wr (((w5.setCell ⟨wr.heap.size, 0, none⟩ a).setCell ⟨wr.heap.size, 1, none⟩ b).setCell ⟨wr.heap.size, 2, none⟩ c) ∧ (((w5.setCell ⟨wr.heap.size, 0, none⟩ a).setCell ⟨wr.heap.size, 1, none⟩ b).setCell ⟨wr.heap.size, 2, none⟩ c).heap[wr.heap.size]? = some (.cells #[a, b, c] 52 (0, 0)) := by
  have hT : w5.heap[wr.heap.size]? = some (.cells #[.int .i64 0, .int .i64 0, .slice none 0 0] 52 (0, 0)) := (hb.block wr.heap.size (by show wr.heap.size < (wr.alloc (.cells #[.int .i64 0, .int .i64 0, .slice none 0 0] 52)).heap.size; simp)).trans (at_new rfl)
  have bz := ((Below.refl wr.heap.size wr).alloc (Nat.le_refl _) (.cells #[.int .i64 0, .int .i64 0, .slice none 0 0] 52)).drew
  have b5 : Below wr.heap.size wr w5 := bz.trans (hb.mono bz.size)
  exact ⟨((b5.setCell (p := ⟨wr.heap.size, 0, none⟩) (Nat.le_refl _) a).setCell (p := ⟨wr.heap.size, 1, none⟩) (Nat.le_refl _) b).setCell (p := ⟨wr.heap.size, 2, none⟩) (Nat.le_refl _) c, row_set (row_set (row_set hT 0 a) 1 b) 2 c⟩

/-- The counts of failures are another row. -/
theorem RI.newF (h : RI B w x bv qv fv gB gQ S) {v : Value} (hb : Below w.heap.size w w') (hown : w'.ownsRow B 3 1 v S.N (List.replicate S.N (.int .i64 0))) : RI B (w'.setCell ⟨x, 2, none⟩ v) x bv qv v gB gQ { S with fl := fun _ => 0 } := by
  have h' := h.later hb
  have hxv := not_row h'.row hown (by decide)
  have hk : ∀ k, k ≠ x → (w'.setCell ⟨x, 2, none⟩ v).heap[k]? = w'.heap[k]? := fun k hk => Below.heap_setCell w' ⟨x, 2, none⟩ _ k hk
  have hkr : ∀ {e : TypeId} {s m : Nat} {u : Value} {Lx : List Value}, w'.ownsRow B e s u m Lx → e ≠ 71 → (w'.setCell ⟨x, 2, none⟩ v).ownsRow B e s u m Lx := fun ho h71 => ownsRow_kept ho (fun k hk' => hk k (by rintro rfl; exact not_row h'.row ho h71 hk'))
  have e : (List.range S.N).map (fun _ => Value.int .i64 0) = List.replicate S.N (.int .i64 0) := by simp [List.map_const']
  exact ⟨row_set h'.row 2 v, hkr h'.bs (by decide), fun i q hq => hkr (h'.bel i q hq) (by decide), hkr h'.qs (by decide), h.qlen, fun i y p hy hp => hkr (h'.qel i y p hy hp) (by decide), by show World.ownsRow _ B 3 1 v S.N ((List.range S.N).map fun _ => Value.int .i64 0); rw [e]; exact hkr hown (by decide), h.lo⟩

theorem RI.four (h : RI B w x bv qv fv gB gQ S) {g n cap : Nat} (hqv : qv = .slice (some ⟨g, 0, none⟩) n cap) (hn : n = S.q.length) {j : Nat} {y : Wr} (hy : S.q[j]? = some y) {p : Nat × Nat} (hp : gQ[j]? = some p) :
    w.cell? ⟨x, 1, none⟩ = some (.slice (some ⟨g, 0, none⟩) n cap) ∧ w.cell? ⟨g, j * 3, none⟩ = some (.int .i64 y.id) ∧ w.cell? ⟨g, j * 3 + 1, none⟩ = some (.int .i64 (y.block : Int)) ∧ w.cell? ⟨g, j * 3 + 2, none⟩ = some (.slice (some ⟨p.1, 0, none⟩) 128 p.2) := by
  have hc := h.c1
  rw [hqv] at hc
  obtain ⟨p', hp', a, b, c, _⟩ := h.sentAt (g := g) (cap := cap) (by rw [hqv, hn]) hy
  rw [hp] at hp'
  cases hp'
  exact ⟨hc, a, b, c⟩

set_option maxRecDepth 10000 in
set_option maxHeartbeats 4000000 in
theorem rcrash_ok (h : RI B w x bv qv fv gB gQ S) (hS : Ok S) (hB : B ≤ w.heap.size) (p : Option Addr) (n c : Nat) (ids : List Int) (hI : II w p n ids) (hII : ∀ k, rfoot x bv qv fv k → ∀ b o, p = some ⟨b, o, none⟩ → 0 < n → b ≠ k) (hall : ∀ id ∈ ids, ∃ i, S.q.findIdx? (fun y => y.id == id) = some i) :
    Calls Try.prog 36 #[.pointer (some ⟨x, 0, none⟩), .slice p n c] w fun e w' => ∃ fv' gB', e = .returned (.int .i64 0) ∧ RI B w' x bv (.slice none 0 0) fv' gB' [] { S with q := [], f := ids.foldl (crash1 S.q) S.f, fl := fun _ => 0 } ∧ Frame (rfoot x bv qv fv) w w' ∧ (∀ k, rrows gB' [] k → rrows gB gQ k ∨ w.heap.size ≤ k) ∧ ∀ k, rfoot x bv (.slice none 0 0) fv' k → rfoot x bv qv fv k ∨ w.heap.size ≤ k := by
  obtain ⟨i3, hi3, hy0, hy1, hy2⟩ := info_parts info3
  have hbig := hI.big
  have hlen := hI.len
  go_enter Try.func36, Try.ntmps36
  go_wp2_with fail
  go_loopw [12] (fun i wr => ∃ j : Nat, j ≤ n ∧ i = .int .i64 (j : Int) ∧ Below w.heap.size w wr) (fun i _ => n - (intOf i).toNat)
  case atStart => exact ⟨0, by omega, rfl, Below.refl _ _⟩
  case round =>
    obtain ⟨j, hj, rfl, hb⟩ := hrel
    by_cases hlt : j < n
    · obtain ⟨bb, oo, rfl, hic⟩ := hI.cells (by omega)
      have hid := (hb.cell (p := ⟨bb, oo + j, none⟩) (lt_of_cell (hic j hlt))).trans (hic j hlt)
      obtain ⟨id, hide⟩ : ∃ id, ids.getD j 0 = id := ⟨_, rfl⟩
      rw [hide] at hid
      obtain ⟨i, hfi⟩ := hall id (by rw [← hide, List.getD_eq_getElem?_getD, List.getElem?_eq_getElem (by omega)]; exact List.getElem_mem _)
      clear hide hic
      have hr := h.later hb
      have hjI : (j : Int) < (n : Int) := by omega
      go_wp2_with fail
      refine Calls.mono (find_ok hr hS id) ?_
      rintro e w3 ⟨rfl, hb3⟩
      rw [idx_some hfi]
      have hi0 : (0 : Int) ≤ (i : Int) := by omega
      go_wp2
      go_roundw
      case rel => exact ⟨j + 1, by omega, by go_num, hb.trans (hb3.mono hb.size)⟩
      case measure => simp [intOf]; omega
    · obtain rfl : n = j := by omega
      go_wp2_with fail
      have h0 : RI B wr x bv qv fv gB gQ { S with f := (ids.take 0).foldl (crash1 S.q) S.f } := h.later hb
      have hf0 : Frame (rfoot x bv qv fv) w wr := frame_of_below hb
      clear hb
      go_loopw [23] (fun i wr => ∃ (k : Nat) (gB' : List (Nat × Nat)), k ≤ n ∧ i = .int .i64 (k : Int) ∧ RI B wr x bv qv fv gB' gQ { S with f := (ids.take k).foldl (crash1 S.q) S.f } ∧ Frame (rfoot x bv qv fv) w wr ∧ ∀ k, rrows gB' gQ k → rrows gB gQ k ∨ w.heap.size ≤ k) (fun i _ => n - (intOf i).toNat)
      case atStart => exact ⟨0, gB, by omega, rfl, h0, hf0, fun k hk => .inl hk⟩
      case round =>
        clear h0 hf0
        obtain ⟨k, gB', hk, rfl, hr, hf, hrw⟩ := hrel
        by_cases hlt2 : k < n
        · obtain ⟨bb, oo, rfl, hic⟩ := hI.cells (by omega)
          have hid : wr.cell? ⟨bb, oo + k, none⟩ = _ := (World.cell?_of_block (w := w) (hf.block bb (lt_of_cell (hic k hlt2)) (fun hx => hII bb hx bb oo rfl (by omega) rfl))).trans (hic k hlt2)
          obtain ⟨id, hide⟩ : ∃ id, ids.getD k 0 = id := ⟨_, rfl⟩
          rw [hide] at hid
          have hidk : ids[k]? = some id := by rw [← hide, List.getD_eq_getElem?_getD, List.getElem?_eq_getElem (by omega)]; rfl
          obtain ⟨i, hfi⟩ := hall id (List.mem_of_getElem? hidk)
          obtain ⟨y, hy, hfy⟩ := find_of_idx hfi
          clear hide hic
          have hil := (List.getElem?_eq_some_iff.1 hy).1
          have hysec := (hS.qok y (List.mem_of_getElem? hy)).2.1
          have hyb := (hS.qok y (List.mem_of_getElem? hy)).1
          obtain ⟨qp, qc, hqv, hpg⟩ := row_case h.qs
          obtain ⟨g, rfl⟩ := hpg (by omega)
          obtain ⟨gb, cb, hbv⟩ := h.bcase hS.N1
          have hnx : (ids.take (k + 1)).foldl (crash1 S.q) S.f = upd ((ids.take k).foldl (crash1 S.q) S.f) y.block y.bytes := by
            rw [List.take_add_one, hidk]
            simp [List.foldl_append, crash1, hfy]
          have hS' := hS.withF (F := (ids.take k).foldl (crash1 S.q) S.f) (crash_sect (fun z hz => (hS.qok z hz).2.1) _ _ hS.sec)
          generalize hF : (ids.take k).foldl (crash1 S.q) S.f = F at hr hnx hS'
          obtain ⟨m, hm⟩ : ∃ m, m = S.q.length := ⟨_, rfl⟩
          have HM := (show Hid (m = S.q.length) from hm)
          rw [← hm] at hqv hil
          clear hm hF
          have hlq := h.qlen
          obtain ⟨py, hpy⟩ : ∃ p, gQ[i]? = some p := ⟨gQ[i]'(by have := HM.out; omega), List.getElem?_eq_getElem _⟩
          have HQ := (show Hid (qv = .slice (some ⟨g, 0, none⟩) m qc) from hqv)
          have HBV := (show Hid (bv = .slice (some ⟨gb, 0, none⟩) S.N cb) from hbv)
          clear hqv hbv hpg
          have hrd : RI B wr.drew x bv qv fv gB' gQ { S with f := F } := hr.later (Below.refl _ _).drew
          have f4 := hrd.four HQ.out HM.out hy hpy
          obtain ⟨v1, v2, v3, v4⟩ := hrd.four HQ.out HM.out hy hpy
          have bz := ((Below.refl wr.heap.size wr).alloc (Nat.le_refl _) (.cells #[.int .i64 0, .int .i64 0, .slice none 0 0] 52)).drew
          have hrz := hr.later bz
          have f4z := hrz.four HQ.out HM.out hy hpy
          have hiI : (i : Int) < (m : Int) := by omega
          have hi0 : (0 : Int) ≤ (i : Int) := by omega
          have hkI : (k : Int) < (n : Int) := by omega
          go_wp2_with fail
          go_region_held3 (fun w' => w'.cell? ⟨x, 1, none⟩ = some (.slice (some ⟨g, 0, none⟩) m qc) ∧ w'.cell? ⟨g, i * 3, none⟩ = some (.int .i64 y.id) ∧ w'.cell? ⟨g, i * 3 + 1, none⟩ = some (.int .i64 (y.block : Int)) ∧ w'.cell? ⟨g, i * 3 + 2, none⟩ = some (.slice (some ⟨py.1, 0, none⟩) 128 py.2)) (first | exact f4 | exact f4z | exact f5 | exact f6 | exact (hr5.later ((Below.refl _ _).alloc (Nat.le_refl _) _)).four HQ.out HM.out hy hpy | go_keep)
            (first
              | (go_at_call 55; refine Calls.mono (find_ok hrd hS' id) ?_; rintro e w5 ⟨rfl, hb5⟩; rw [idx_some hfi]; have hr5 := hrd.later hb5; have f5 := hr5.four HQ.out HM.out hy hpy)
              | (go_at_call 55; refine Calls.mono (find_ok hrz hS' id) ?_; rintro e w5 ⟨rfl, hb5⟩; rw [idx_some hfi]; have hr5 := hrz.later hb5; have f5 := hr5.four HQ.out HM.out hy hpy; obtain ⟨z0, z1, z2, y0, y1, y2⟩ := zeros_at hb5; obtain ⟨b6, hT6⟩ := stored3 hb5 (.int .i64 y.id) (.int .i64 (y.block : Int)) (.slice (some ⟨py.1, 0, none⟩) 128 py.2); have f6 := (hr.later b6).four HQ.out HM.out hy hpy))
          · have b6 : Below wr.heap.size wr (w5.alloc (.cells #[.int .i64 y.id, .int .i64 (y.block : Int), .slice (some ⟨py.1, 0, none⟩) 128 py.2] 52)) := ((Below.refl wr.heap.size wr).drew.trans hb5).alloc (Nat.le_trans (Nat.le_refl _) hb5.size) _
            have hT6 : (w5.alloc (.cells #[.int .i64 y.id, .int .i64 (y.block : Int), .slice (some ⟨py.1, 0, none⟩) 128 py.2] 52)).heap[w5.heap.size]? = some (.cells #[.int .i64 y.id, .int .i64 (y.block : Int), .slice (some ⟨py.1, 0, none⟩) 128 py.2] 52 (0, 0)) := at_new rfl
            clear f5 hr5
            generalize w5.alloc (.cells #[.int .i64 y.id, .int .i64 (y.block : Int), .slice (some ⟨py.1, 0, none⟩) 128 py.2] 52) = w6 at b6 hT6 ⊢
            obtain ⟨T, hTe⟩ : ∃ T, w5.heap.size = T := ⟨_, rfl⟩
            rw [hTe] at hT6 ⊢
            clear hTe hb5 f4 f4z v1 v2 v3 v4
            have hr6 := hr.later b6
            have hnd := hr6.later (Below.refl _ _).drew
            have q0 := hnd.c0
            rw [HBV.out] at q0
            have q1 : w6.drew.cell? ⟨T, 1, none⟩ = some (.int .i64 (y.block : Int)) := by rw [cell_of_row w6.drew T 1 _ _ _ hT6]; rfl
            have q2 : w6.drew.cell? ⟨T, 2, none⟩ = some (.slice (some ⟨py.1, 0, none⟩) 128 py.2) := by rw [cell_of_row w6.drew T 2 _ _ _ hT6]; rfl
            have hbi := ((hr6.qel i y py hy hpy).kept (Below.refl _ _).drew).bi (by omega) hysec.2
            have hgT : gb ≠ T := by
              rintro rfl
              exact not_row hT6 hr6.bs (by decide) (by rw [HBV.out]; rfl)
            have hgx : gb ≠ x := by
              rintro rfl
              exact not_row hr6.row hr6.bs (by decide) (by rw [HBV.out]; rfl)
            have hybI : (y.block : Int) < (S.N : Int) := by omega
            have hyb0 : (0 : Int) ≤ (y.block : Int) := by omega
            have hf6 : Frame (rfoot x bv qv fv) w w6 := hf.trans (frame_of_below b6)
            have hB6 : B ≤ w6.drew.heap.size := Nat.le_trans hB hf6.size
            clear hT6 hr6 b6 hr hrd hrz bz
            go_wp2_with fail
            go_region_held3 (fun w' => w'.cell? ⟨x, 0, none⟩ = some (.slice (some ⟨gb, 0, none⟩) S.N cb) ∧ w'.cell? ⟨T, 1, none⟩ = some (.int .i64 (y.block : Int)) ∧ w'.cell? ⟨T, 2, none⟩ = some (.slice (some ⟨py.1, 0, none⟩) 128 py.2)) (first | exact ⟨q0, q1, q2⟩ | exact ⟨q0', q1', q2'⟩ | exact ⟨q0'', q1'', q2''⟩)
              ((go_at_call 41; refine Calls.mono (copied_ok _ 128 _ y.bytes _ hbi) ?_; rintro e w7 ⟨g7, c7, rfl, ho7, hb7⟩; have hn7 := hnd.later hb7; have q0' := (hb7.cell (p := ⟨x, 0, none⟩) (lt_of_cell q0)).trans q0; have q1' := (hb7.cell (p := ⟨T, 1, none⟩) (lt_of_cell q1)).trans q1; have q2' := (hb7.cell (p := ⟨T, 2, none⟩) (lt_of_cell q1)).trans q2; have hfin := hn7.setB (p := (g7, c7)) HBV.out hyb (ho7.base hB6); obtain ⟨pb, _, hpb, _⟩ := hn7.bcell HBV.out hyb; have hfzb : w7.frozen? ⟨gb, y.block, none⟩ = false := (by have := hn7.bs; rw [HBV.out] at this; exact this.frozenAt y.block); have q0'' := (cell_other w7 hgx (slc (g7, c7)) (i := y.block) (j := 0)).trans q0'; have q1'' := (cell_other w7 hgT (slc (g7, c7)) (i := y.block) (j := 1)).trans q1'; have q2'' := (cell_other w7 hgT (slc (g7, c7)) (i := y.block) (j := 2)).trans q2'; unfold slc at hpb q0'' q1'' q2''))
            have hspot := ho7.spot
            have hfr := ((frame_drew hf6).trans (frame_of_below hb7)).trans (Frame.setCell (X := rfoot x bv qv fv) (p := ⟨gb, y.block, none⟩) w7 (slc (g7, c7)) (.inr (.inl (by rw [HBV.out]; rfl))))
            have hrel : RI B (w7.setCell ⟨gb, y.block, none⟩ (slc (g7, c7))) x bv qv fv (gB'.set y.block (g7, c7)) gQ { S with f := (ids.take (k + 1)).foldl (crash1 S.q) S.f } := by rw [hnx]; exact hfin.1
            have HR := (show Hid _ from hrel)
            have HF := (show Hid _ from hfr)
            clear hrel hfr hfin hnx hpb hfzb q0 q1 q2 q0' q1' q2' q0'' q1'' q2'' hn7 hb7 ho7 hnd hall hfi hfy hy hpy
            go_wp2
            go_roundw
            case rel =>
              refine ⟨k + 1, _, by omega, by go_num, HR.out, HF.out, fun j hj => ?_⟩
              rcases rrows_set (p := (g7, c7)) (H := w.heap.size) (Nat.le_trans hf6.size hspot.1) j hj with h' | h'
              · exact hrw j h'
              · exact .inr h'
            case measure => simp [intOf]; omega
          · clear f5 hr5 f6 z0 z1 z2 y0 y1 y2
            generalize ((w5.setCell ⟨wr.heap.size, 0, none⟩ (.int .i64 y.id)).setCell ⟨wr.heap.size, 1, none⟩ (.int .i64 (y.block : Int))).setCell ⟨wr.heap.size, 2, none⟩ (.slice (some ⟨py.1, 0, none⟩) 128 py.2) = w6 at b6 hT6 ⊢
            obtain ⟨T, hTe⟩ : ∃ T, wr.heap.size = T := ⟨_, rfl⟩
            rw [hTe] at hT6 ⊢
            clear hTe hb5 f4 f4z v1 v2 v3 v4
            have hr6 := hr.later b6
            have hnd := hr6.later (Below.refl _ _).drew
            have q0 := hnd.c0
            rw [HBV.out] at q0
            have q1 : w6.drew.cell? ⟨T, 1, none⟩ = some (.int .i64 (y.block : Int)) := by rw [cell_of_row w6.drew T 1 _ _ _ hT6]; rfl
            have q2 : w6.drew.cell? ⟨T, 2, none⟩ = some (.slice (some ⟨py.1, 0, none⟩) 128 py.2) := by rw [cell_of_row w6.drew T 2 _ _ _ hT6]; rfl
            have hbi := ((hr6.qel i y py hy hpy).kept (Below.refl _ _).drew).bi (by omega) hysec.2
            have hgT : gb ≠ T := by
              rintro rfl
              exact not_row hT6 hr6.bs (by decide) (by rw [HBV.out]; rfl)
            have hgx : gb ≠ x := by
              rintro rfl
              exact not_row hr6.row hr6.bs (by decide) (by rw [HBV.out]; rfl)
            have hybI : (y.block : Int) < (S.N : Int) := by omega
            have hyb0 : (0 : Int) ≤ (y.block : Int) := by omega
            have hf6 : Frame (rfoot x bv qv fv) w w6 := hf.trans (frame_of_below b6)
            have hB6 : B ≤ w6.drew.heap.size := Nat.le_trans hB hf6.size
            clear hT6 hr6 b6 hr hrd hrz bz
            go_wp2_with fail
            go_region_held3 (fun w' => w'.cell? ⟨x, 0, none⟩ = some (.slice (some ⟨gb, 0, none⟩) S.N cb) ∧ w'.cell? ⟨T, 1, none⟩ = some (.int .i64 (y.block : Int)) ∧ w'.cell? ⟨T, 2, none⟩ = some (.slice (some ⟨py.1, 0, none⟩) 128 py.2)) (first | exact ⟨q0, q1, q2⟩ | exact ⟨q0', q1', q2'⟩ | exact ⟨q0'', q1'', q2''⟩)
              ((go_at_call 41; refine Calls.mono (copied_ok _ 128 _ y.bytes _ hbi) ?_; rintro e w7 ⟨g7, c7, rfl, ho7, hb7⟩; have hn7 := hnd.later hb7; have q0' := (hb7.cell (p := ⟨x, 0, none⟩) (lt_of_cell q0)).trans q0; have q1' := (hb7.cell (p := ⟨T, 1, none⟩) (lt_of_cell q1)).trans q1; have q2' := (hb7.cell (p := ⟨T, 2, none⟩) (lt_of_cell q1)).trans q2; have hfin := hn7.setB (p := (g7, c7)) HBV.out hyb (ho7.base hB6); obtain ⟨pb, _, hpb, _⟩ := hn7.bcell HBV.out hyb; have hfzb : w7.frozen? ⟨gb, y.block, none⟩ = false := (by have := hn7.bs; rw [HBV.out] at this; exact this.frozenAt y.block); have q0'' := (cell_other w7 hgx (slc (g7, c7)) (i := y.block) (j := 0)).trans q0'; have q1'' := (cell_other w7 hgT (slc (g7, c7)) (i := y.block) (j := 1)).trans q1'; have q2'' := (cell_other w7 hgT (slc (g7, c7)) (i := y.block) (j := 2)).trans q2'; unfold slc at hpb q0'' q1'' q2''))
            have hspot := ho7.spot
            have hfr := ((frame_drew hf6).trans (frame_of_below hb7)).trans (Frame.setCell (X := rfoot x bv qv fv) (p := ⟨gb, y.block, none⟩) w7 (slc (g7, c7)) (.inr (.inl (by rw [HBV.out]; rfl))))
            have hrel : RI B (w7.setCell ⟨gb, y.block, none⟩ (slc (g7, c7))) x bv qv fv (gB'.set y.block (g7, c7)) gQ { S with f := (ids.take (k + 1)).foldl (crash1 S.q) S.f } := by rw [hnx]; exact hfin.1
            have HR := (show Hid _ from hrel)
            have HF := (show Hid _ from hfr)
            clear hrel hfr hfin hnx hpb hfzb q0 q1 q2 q0' q1' q2' q0'' q1'' q2'' hn7 hb7 ho7 hnd hall hfi hfy hy hpy
            go_wp2
            go_roundw
            case rel =>
              refine ⟨k + 1, _, by omega, by go_num, HR.out, HF.out, fun j hj => ?_⟩
              rcases rrows_set (p := (g7, c7)) (H := w.heap.size) (Nat.le_trans hf6.size hspot.1) j hj with h' | h'
              · exact hrw j h'
              · exact .inr h'
            case measure => simp [intOf]; omega
        · obtain rfl : n = k := by omega
          rw [List.take_of_length_le (by omega)] at hr
          have hc1 := hr.c1
          have hfz1 := hr.froz 1
          have hr1 := hr.newQ (w' := wr) (v := .slice none 0 0) (q' := []) (gQ' := []) (Below.refl _ _) (World.ownsRow_nil _ _ _ _) rfl (by simp)
          obtain ⟨gb, cb, hbv⟩ := h.bcase hS.N1
          have HBV := (show Hid (bv = .slice (some ⟨gb, 0, none⟩) S.N cb) from hbv)
          clear hbv
          have hc0 := hr1.c0
          rw [HBV.out] at hc0
          have hf1 : Frame (rfoot x bv qv fv) w (wr.setCell ⟨x, 1, none⟩ (.slice none 0 0)) := hf.trans (Frame.setCell wr _ (.inl rfl))
          have hN2 := hS.N2
          have hB1 : B ≤ (wr.setCell ⟨x, 1, none⟩ (.slice none 0 0)).heap.size := Nat.le_trans hB hf1.size
          obtain ⟨qp, qc, hqv, _⟩ := row_case h.qs
          rw [hqv] at hc1
          clear hqv hr hall hI hII
          go_wp2_with (at_make; refine wpList_make_full _ rfl _ _ 31 rfl B 3 i3 (.int .i64 0) 1 Try.underlying31 hi3 hy0 hy1 .i64 .i64 _ _ S.N rfl rfl rfl rfl (by rw [hy2]; omega) (by unfold maxLen; omega) hB1 ?_; intro w8 hown8 hgrow8; have hb8 := (Below.refl (wr.setCell ⟨x, 1, none⟩ (.slice none 0 0)).heap.size (wr.setCell ⟨x, 1, none⟩ (.slice none 0 0))).grown hgrow8 (Nat.le_refl _) (by intro k hk; cases hk); clear hgrow8; have hr8 := hr1.later hb8; have hc2 := hr8.c2; have hfz2 := hr8.froz 2)
          rw [made_list _ _ rfl] at hown8
          have hse : (wr.setCell ⟨x, 1, none⟩ (.slice none 0 0)).heap.size = wr.heap.size := by simp
          rw [hse] at hown8
          have hfin := hr1.newF hb8 hown8
          have hfr := (hf1.trans (frame_of_below hb8)).trans (Frame.setCell (X := rfoot x bv qv fv) (p := ⟨x, 2, none⟩) w8 (.slice (some ⟨wr.heap.size, 0, none⟩) S.N S.N) (.inl rfl))
          go_ret
          have hws : w.heap.size ≤ wr.heap.size := hf.size
          refine ⟨rfl, _, _, hfin, hfr, fun k hk => ?_, fun k hk => ?_⟩
          · rcases hk with h' | ⟨q, hq, _⟩
            · exact hrw k (.inl h')
            · cases hq
          · rcases hk with e | e | e | e
            · exact .inl (.inl e)
            · exact .inl (.inr (.inl e))
            · cases e
            · simp only [Value.ownBlock, Option.some.injEq] at e
              subst e
              exact .inr hws
end
end Go.Proofs.Ytnbknoibelajaab
