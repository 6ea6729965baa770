/- The document's cache: Put, Drop, Unpin, Held, Hits, Pin; Get of a block that is not held. -/
import Derived.Test.YtliljdencaocaaaRDoc1
namespace Go.Proofs.Ytliljdencaocaaa
open Go.RowKit Go.Maps
set_option linter.unusedVariables false

theorem flat3_set {l : List BZ} : ∀ {i : Nat} {z z' : BZ} {c : Nat} {u : Value}, l[i]? = some z → c < 3 → bu3 z'.1 z'.2 = (bu3 z.1 z.2).set c u → flat3 (l.set i z') = (flat3 l).set (i * 3 + c) u := by
  induction l with
  | nil => intro i z z' c u h; simp at h
  | cons a r ih =>
    intro i z z' c u h hc hu
    have e : flat3 (a :: r) = bu3 a.1 a.2 ++ flat3 r := by simp [flat3]
    cases i with
    | zero =>
      simp at h
      subst h
      rw [List.set_cons_zero, e, show flat3 (z' :: r) = bu3 z'.1 z'.2 ++ flat3 r by simp [flat3], hu, Nat.zero_mul, Nat.zero_add, List.set_append_left _ _ (by simp [bu3]; omega)]
    | succ j =>
      have hj : r[j]? = some z := by simpa using h
      rw [List.set_cons_succ, e, show flat3 (a :: r.set j z') = bu3 a.1 a.2 ++ flat3 (r.set j z') by simp [flat3], ih hj hc hu, List.set_append_right _ _ (by simp [bu3]; omega)]
      congr 2
      simp [bu3]
      omega

section
variable {B : Nat} {w w' : World} {x y : Nat} {lv bv qv fv : Value} {l : List BZ} {gB gQ : List (Nat × Nat)} {A : Ca} {S : St}
theorem RC.setAt (h : RC B w y x lv l A) {gl n cap : Nat} (hv : lv = .slice (some ⟨gl, 0, none⟩) n cap) {i : Nat} {z : BZ} (hz : l[i]? = some z) (z' : BZ) (c : Nat) (u : Value) (hc : c < 3) (hu : bu3 z'.1 z'.2 = (bu3 z.1 z.2).set c u)
    (hby : Own B w z'.2.1 128 z'.2.2 z'.1.xs ∧ Sect z'.1.xs) (hp : z'.1.p ≤ 100) : RC B (w.setCell ⟨gl, i * 3 + c, none⟩ u) y x lv (l.set i z') { A with l := (l.set i z').map (·.1) } := by
  obtain ⟨p', cap', hlv', _⟩ := h.shape
  rw [hv] at hlv'
  obtain ⟨_, rfl, _⟩ := Value.slice.inj hlv'
  have hl := h.lst
  rw [hv] at hl
  obtain ⟨cs, hgl⟩ := own_ty hl (k := gl) rfl
  have hk : ∀ k, k ≠ gl → (w.setCell ⟨gl, i * 3 + c, none⟩ u).heap[k]? = w.heap[k]? := fun k hk => Below.heap_setCell w ⟨gl, i * 3 + c, none⟩ _ k hk
  refine { row := ?_, lst := ?_, eq := rfl, byt := fun q hq => ?_, lo := h.lo, bd := h.bd, len := by rw [List.length_set]; exact h.len, cnt := h.cnt, ps := fun q hq => ?_ }
  · rw [hk y (by rintro rfl; rw [h.row] at hgl; simp at hgl)]
    exact h.row
  · rw [flat3_set hz hc hu, List.length_set, hv]
    exact (World.ownsRow.stored hl (i * 3 + c) u).1
  · have hq' : Own B w q.2.1 128 q.2.2 q.1.xs ∧ Sect q.1.xs := by
      rcases List.mem_or_eq_of_mem_set hq with hq | rfl
      · exact h.byt q hq
      · exact hby
    refine ⟨hq'.1.at (hk _ ?_), hq'.2⟩
    rintro e
    obtain ⟨cs2, e2⟩ := own_ty hq'.1 (k := q.2.1) rfl
    rw [e, hgl] at e2
    simp at e2
  · rcases List.mem_or_eq_of_mem_set hq with hq | rfl
    · exact h.ps q hq
    · exact hp
theorem RC.lfroz (h : RC B w y x lv l A) {gl n cap : Nat} (hv : lv = .slice (some ⟨gl, 0, none⟩) n cap) (j : Nat) : w.frozen? ⟨gl, j, none⟩ = false := by
  have hl := h.lst
  rw [hv] at hl
  obtain ⟨cs, hgl⟩ := own_ty hl (k := gl) rfl
  simp [World.frozen?, hgl]

set_option maxHeartbeats 400000 in
theorem rhits_ok (h : RC B w y x lv l A) : Calls Try.prog 14 #[.pointer (some ⟨y, 0, none⟩)] w fun e w' => e = .returned (.tuple #[.int .i64 (A.hi : Int), .int .i64 (A.mi : Int)]) ∧ ∃ q, w' = w.drewN q := by
  have c3 := h.c3
  have c4 := h.c4
  go_enter Try.func14, Try.ntmps14
  go_wp2_with fail
  go_quiet (fail)
  go_wp2
  go_ret2
  exact ⟨rfl, _, rfl⟩

set_option maxRecDepth 100000 in
set_option maxHeartbeats 1000000 in
theorem rheld_ok (h : RC B w y x lv l A) : Calls Try.prog 12 #[.pointer (some ⟨y, 0, none⟩)] w fun e w' => ∃ v, e = .returned v ∧ Win w.heap.size w' v (l.map (fun z => (z.1.b : Int))) ∧ Below w.heap.size w w' := by
  obtain ⟨p, cap, hlv, hcap, hpg⟩ := h.shape
  have h64 := h.len
  have c2 := h.c2
  rw [hlv] at c2
  obtain ⟨n, hn⟩ : ∃ n, n = l.length := ⟨_, rfl⟩
  rw [← hn] at c2 hlv h64 hpg
  have HN := (show Hid (n = l.length) from hn)
  have HV := (show Hid _ from hlv)
  clear hn hcap hlv
  go_enter Try.func12, Try.ntmps12
  go_wp2_with fail
  go_loopw [3, 11] (fun v i wr => ∃ j : Nat, j ≤ n ∧ i = .int .i64 (j : Int) ∧ Win w.heap.size wr v ((l.take j).map (fun z => (z.1.b : Int))) ∧ Below w.heap.size w wr) (fun _ i _ => n - (intOf i).toNat)
  case atStart => exact ⟨0, by omega, rfl, by rw [List.take_zero]; exact .inl ⟨rfl, rfl⟩, Below.refl _ _⟩
  case round =>
    obtain ⟨j, hj, rfl, hNm, hb⟩ := hrel
    by_cases hlt : j < n
    · obtain ⟨g, rfl⟩ := hpg (by omega)
      obtain ⟨z, hz⟩ : ∃ z, l[j]? = some z := ⟨l[j]'(by have := HN.out; omega), List.getElem?_eq_getElem _⟩
      obtain ⟨e0, e1, e2⟩ := (h.later hb).cells HV.out hz
      have hjI : (j : Int) < (n : Int) := by omega
      have hj0 : (0 : Int) ≤ (j : Int) := by omega
      have HZ := (show Hid _ from hz)
      have hb1 := hb.alloc hb.size (.cells #[.int .i64 (z.1.b : Int), .int .i64 (z.1.p : Int), .slice (some ⟨z.2.1, 0, none⟩) 128 z.2.2] 95)
      have hN1 := hNm.later ((Below.refl _ _).alloc (Nat.le_refl _) (.cells #[.int .i64 (z.1.b : Int), .int .i64 (z.1.p : Int), .slice (some ⟨z.2.1, 0, none⟩) 128 z.2.2] 95))
      have hlen : ((l.take j).map (fun z => (z.1.b : Int))).length ≤ 64 := by rw [List.length_map, List.length_take]; omega
      have hlj : ((l.take j).map (fun z => (z.1.b : Int))).length = j := by rw [List.length_map, List.length_take]; have := HN.out; omega
      have HLJ := (show Hid _ from hlj)
      have e : Hid ((l.take (j + 1)).map (fun z => (z.1.b : Int)) = (l.take j).map (fun z => (z.1.b : Int)) ++ [(z.1.b : Int)]) := by
        show _ = _
        rw [List.take_add_one, HZ.out]; simp
      have hcl : ((wr.alloc (.cells #[.int .i64 (z.1.b : Int), .int .i64 (z.1.p : Int), .slice (some ⟨z.2.1, 0, none⟩) 128 z.2.2] 95)).alloc (.cells #[.int .i64 (z.1.b : Int)] 3)).cell? ⟨wr.heap.size + 1, 0, none⟩ = some (.int .i64 (z.1.b : Int)) := by
        have := (Boxed.new (wr.alloc (.cells #[.int .i64 (z.1.b : Int), .int .i64 (z.1.p : Int), .slice (some ⟨z.2.1, 0, none⟩) 128 z.2.2] 95)) 3 (.int .i64 (z.1.b : Int))).cell
        rw [World.size_alloc] at this
        exact this
      have HCL := (show Hid _ from hcl)
      clear hz hNm hlj hcl
      generalize (l.take j).map (fun z => (z.1.b : Int)) = M at *
      go_wp2_with (at_builtin; refine wpList_push rfl _ _ rfl (hN1.later ((Below.refl _ _).alloc (Nat.le_refl _) _)) (by have := hb1.size; simp at this; simp; omega) (by omega) ⟨wr.heap.size + 1, 0, none⟩ (z.1.b : Int) HCL.out rfl rfl ?_; intro g4 pre4 suf4 k4 w4 hA4 hg4)
      go_roundw
      case rel =>
        refine ⟨j + 1, by omega, by go_num, ?_, ?_⟩
        · rw [e.out]
          have := hA4.win
          rw [List.length_append] at this
          exact this
        · have hb2 := hb1.alloc hb1.size (.cells #[.int .i64 (z.1.b : Int)] 3)
          exact hb2.grown hg4 hb2.size (fun k hk => ((hN1.later ((Below.refl _ _).alloc (Nat.le_refl _) (.cells #[.int .i64 (z.1.b : Int)] 3))).lo k hk).1)
      case measure => simp [intOf]; omega
    · obtain rfl : j = n := by omega
      go_wp2
      go_ret
      rw [HN.out, List.take_length] at hNm
      exact ⟨_, rfl, hNm, hb⟩
set_option maxHeartbeats 400000 in
theorem rput_arg (h : RC B w y x lv l A) (hr : RI B w x bv qv fv gB gQ S) (hN : 1 ≤ S.N) (b : Int) (hb : b < 0 ∨ (S.N : Int) ≤ b) (p : Option Addr) (n cp : Nat) : Calls Try.prog 40 #[.pointer (some ⟨y, 0, none⟩), .int .i64 b, .slice p n cp] w fun e w' => e = .returned (.int .i64 1) ∧ w' = w := by
  have c0 := h.c0
  obtain ⟨gb, cb, hbv⟩ := hr.bcase hN
  have d0 := hr.c0
  rw [hbv] at d0
  clear hbv
  by_cases h0 : b < 0
  · clear hb
    go_enter Try.func40, Try.ntmps40
    go_wp2
    go_ret
    exact ⟨rfl, rfl⟩
  · have h1 : (S.N : Int) ≤ b := by omega
    have h0 : 0 ≤ b := by omega
    clear hb
    go_enter Try.func40, Try.ntmps40
    go_wp2
    go_ret
    exact ⟨rfl, rfl⟩
set_option maxHeartbeats 400000 in
theorem runpin_arg (h : RC B w y x lv l A) (hr : RI B w x bv qv fv gB gQ S) (hN : 1 ≤ S.N) (b : Int) (hb : b < 0 ∨ (S.N : Int) ≤ b) : Calls Try.prog 42 #[.pointer (some ⟨y, 0, none⟩), .int .i64 b] w fun e w' => e = .returned (.int .i64 1) ∧ w' = w := by
  have c0 := h.c0
  obtain ⟨gb, cb, hbv⟩ := hr.bcase hN
  have d0 := hr.c0
  rw [hbv] at d0
  clear hbv
  by_cases h0 : b < 0
  · clear hb
    go_enter Try.func42, Try.ntmps42
    go_wp2
    go_ret
    exact ⟨rfl, rfl⟩
  · have h1 : (S.N : Int) ≤ b := by omega
    have h0 : 0 ≤ b := by omega
    clear hb
    go_enter Try.func42, Try.ntmps42
    go_wp2
    go_ret
    exact ⟨rfl, rfl⟩
set_option maxHeartbeats 400000 in
theorem rdrop_arg (h : RC B w y x lv l A) (hr : RI B w x bv qv fv gB gQ S) (hN : 1 ≤ S.N) (b : Int) (hb : b < 0 ∨ (S.N : Int) ≤ b) : Calls Try.prog 43 #[.pointer (some ⟨y, 0, none⟩), .int .i64 b] w fun e w' => e = .returned (.int .i64 1) ∧ w' = w := by
  have c0 := h.c0
  obtain ⟨gb, cb, hbv⟩ := hr.bcase hN
  have d0 := hr.c0
  rw [hbv] at d0
  clear hbv
  by_cases h0 : b < 0
  · clear hb
    go_enter Try.func43, Try.ntmps43
    go_wp2
    go_ret
    exact ⟨rfl, rfl⟩
  · have h1 : (S.N : Int) ≤ b := by omega
    have h0 : 0 ≤ b := by omega
    clear hb
    go_enter Try.func43, Try.ntmps43
    go_wp2
    go_ret
    exact ⟨rfl, rfl⟩

set_option maxHeartbeats 400000 in
theorem rput_len (h : RC B w y x lv l A) (hr : RI B w x bv qv fv gB gQ S) (hN : 1 ≤ S.N) (b : Nat) (hb : b < S.N) (p : Option Addr) (n cp : Nat) (hn : ¬ n = 128) (hnn : n ≤ 140737488355328) : Calls Try.prog 40 #[.pointer (some ⟨y, 0, none⟩), .int .i64 (b : Int), .slice p n cp] w fun e w' => e = .returned (.int .i64 1) ∧ w' = w := by
  have c0 := h.c0
  obtain ⟨gb, cb, hbv⟩ := hr.bcase hN
  have d0 := hr.c0
  rw [hbv] at d0
  clear hbv
  have hbI : (b : Int) < (S.N : Int) := by omega
  have hb0 : (0 : Int) ≤ (b : Int) := by omega
  have hI : ¬ (n : Int) = 128 := by omega
  have hJ : ((n : Int) != 128) = true := by rw [bne_iff_ne]; exact hI
  go_enter Try.func40, Try.ntmps40
  go_wp2
  go_ret
  exact ⟨rfl, rfl⟩
set_option maxHeartbeats 400000 in
theorem rput_miss (h : RC B w y x lv l A) (hr : RI B w x bv qv fv gB gQ S) (hN : 1 ≤ S.N) (b : Nat) (hb : b < S.N) (p : Option Addr) (cp : Nat) (hf : fst? l (fun u => (u.b : Int) == (b : Int)) = -1) : Calls Try.prog 40 #[.pointer (some ⟨y, 0, none⟩), .int .i64 (b : Int), .slice p 128 cp] w fun e w' => e = .returned (.int .i64 0) ∧ Below w.heap.size w w' := by
  have c0 := h.c0
  obtain ⟨gb, cb, hbv⟩ := hr.bcase hN
  have d0 := hr.c0
  rw [hbv] at d0
  clear hbv
  have hbI : (b : Int) < (S.N : Int) := by omega
  have hb0 : (0 : Int) ≤ (b : Int) := by omega
  have hfind := rfind_ok h (b : Int)
  rw [hf] at hfind
  clear hf
  go_enter Try.func40, Try.ntmps40
  go_wp2_with (first | (go_at_call 70; refine Calls.mono hfind ?_; rintro e w1 ⟨rfl, hb1⟩))
  go_ret
  exact ⟨rfl, hb1⟩
set_option maxHeartbeats 400000 in
theorem rdrop_miss (h : RC B w y x lv l A) (hr : RI B w x bv qv fv gB gQ S) (hN : 1 ≤ S.N) (b : Nat) (hb : b < S.N) (hf : fst? l (fun u => (u.b : Int) == (b : Int)) = -1) : Calls Try.prog 43 #[.pointer (some ⟨y, 0, none⟩), .int .i64 (b : Int)] w fun e w' => e = .returned (.int .i64 0) ∧ Below w.heap.size w w' := by
  have c0 := h.c0
  obtain ⟨gb, cb, hbv⟩ := hr.bcase hN
  have d0 := hr.c0
  rw [hbv] at d0
  clear hbv
  have hbI : (b : Int) < (S.N : Int) := by omega
  have hb0 : (0 : Int) ≤ (b : Int) := by omega
  have hfind := rfind_ok h (b : Int)
  rw [hf] at hfind
  clear hf
  go_enter Try.func43, Try.ntmps43
  go_wp2_with (first | (go_at_call 70; refine Calls.mono hfind ?_; rintro e w1 ⟨rfl, hb1⟩))
  go_ret
  exact ⟨rfl, hb1⟩
set_option maxHeartbeats 400000 in
theorem runpin_miss (h : RC B w y x lv l A) (hr : RI B w x bv qv fv gB gQ S) (hN : 1 ≤ S.N) (b : Nat) (hb : b < S.N) (hf : fst? l (fun u => (u.b : Int) == (b : Int)) = -1) : Calls Try.prog 42 #[.pointer (some ⟨y, 0, none⟩), .int .i64 (b : Int)] w fun e w' => e = .returned (.int .i64 3) ∧ Below w.heap.size w w' := by
  have c0 := h.c0
  obtain ⟨gb, cb, hbv⟩ := hr.bcase hN
  have d0 := hr.c0
  rw [hbv] at d0
  clear hbv
  have hbI : (b : Int) < (S.N : Int) := by omega
  have hb0 : (0 : Int) ≤ (b : Int) := by omega
  have hfind := rfind_ok h (b : Int)
  rw [hf] at hfind
  clear hf
  go_enter Try.func42, Try.ntmps42
  go_wp2_with (first | (go_at_call 70; refine Calls.mono hfind ?_; rintro e w1 ⟨rfl, hb1⟩))
  go_ret
  exact ⟨rfl, hb1⟩
set_option maxHeartbeats 1000000 in
theorem runpin_zero (h : RC B w y x lv l A) (hr : RI B w x bv qv fv gB gQ S) (hN : 1 ≤ S.N) (b : Nat) (hb : b < S.N) (i : Nat) (z : BZ) (hz : l[i]? = some z) (hf : fst? l (fun u => (u.b : Int) == (b : Int)) = (i : Int)) (hp : z.1.p = 0) : Calls Try.prog 42 #[.pointer (some ⟨y, 0, none⟩), .int .i64 (b : Int)] w fun e w' => e = .returned (.int .i64 3) ∧ Below w.heap.size w w' := by
  have c0 := h.c0
  obtain ⟨gb, cb, hbv⟩ := hr.bcase hN
  have d0 := hr.c0
  rw [hbv] at d0
  clear hbv
  have hbI : (b : Int) < (S.N : Int) := by omega
  have hb0 : (0 : Int) ≤ (b : Int) := by omega
  obtain ⟨qp, qc, hqv, hcap, hpg⟩ := h.shape
  have hil := (List.getElem?_eq_some_iff.1 hz).1
  obtain ⟨gl, rfl⟩ := hpg (by omega)
  obtain ⟨n, hn⟩ : ∃ n, n = l.length := ⟨_, rfl⟩
  rw [← hn] at hqv hil
  have hi0 : (0 : Int) ≤ (i : Int) := by omega
  have hiI : (i : Int) < (n : Int) := by omega
  have HNl := (show Hid (n = l.length) from hn)
  have HV := (show Hid _ from hqv)
  have HZ := (show Hid _ from hz)
  have HH := (show Hid _ from h)
  have hfind := rfind_ok h (b : Int)
  rw [hf] at hfind
  have HF := (show Hid _ from hfind)
  clear hf hz hfind h hcap hpg hqv hn
  go_enter Try.func42, Try.ntmps42
  go_wp2_with (first | (go_at_call 70; refine Calls.mono HF.out ?_; rintro e w1 ⟨rfl, hb1⟩; have h1 := HH.out.later hb1; have c2 := h1.c2; rw [HV.out] at c2; obtain ⟨e0, e1, e2⟩ := h1.cells HV.out HZ.out; rw [hp] at e1))
  go_ret
  exact ⟨rfl, hb1⟩
set_option maxHeartbeats 1000000 in
theorem runpin_ok (h : RC B w y x lv l A) (hr : RI B w x bv qv fv gB gQ S) (hN : 1 ≤ S.N) (b : Nat) (hb : b < S.N) (i : Nat) (z : BZ) (hz : l[i]? = some z) (hf : fst? l (fun u => (u.b : Int) == (b : Int)) = (i : Int)) (hp : 0 < z.1.p) :
    Calls Try.prog 42 #[.pointer (some ⟨y, 0, none⟩), .int .i64 (b : Int)] w fun e w' => e = .returned (.int .i64 0) ∧ RC B w' y x lv (l.set i (⟨z.1.b, z.1.p - 1, z.1.xs⟩, z.2)) { A with l := (l.set i (⟨z.1.b, z.1.p - 1, z.1.xs⟩, z.2)).map (·.1) } ∧ Frame (rcw y lv) w w' := by
  have c0 := h.c0
  obtain ⟨gb, cb, hbv⟩ := hr.bcase hN
  have d0 := hr.c0
  rw [hbv] at d0
  clear hbv
  have hbI : (b : Int) < (S.N : Int) := by omega
  have hb0 : (0 : Int) ≤ (b : Int) := by omega
  obtain ⟨qp, qc, hqv, hcap, hpg⟩ := h.shape
  have hil := (List.getElem?_eq_some_iff.1 hz).1
  obtain ⟨gl, rfl⟩ := hpg (by omega)
  obtain ⟨n, hn⟩ : ∃ n, n = l.length := ⟨_, rfl⟩
  rw [← hn] at hqv hil
  have hi0 : (0 : Int) ≤ (i : Int) := by omega
  have hiI : (i : Int) < (n : Int) := by omega
  have HNl := (show Hid (n = l.length) from hn)
  have HV := (show Hid _ from hqv)
  have HZ := (show Hid _ from hz)
  have HH := (show Hid _ from h)
  have hfind := rfind_ok h (b : Int)
  rw [hf] at hfind
  have HF := (show Hid _ from hfind)
  have hps := h.ps z (List.mem_of_getElem? hz)
  have hpI : (0 : Int) < (z.1.p : Int) := by omega
  have hp1 : (z.1.p : Int) ≤ 100 := by omega
  have hpz : ¬ (z.1.p : Int) = 0 := by omega
  have hpe : ((z.1.p : Int) == 0) = false := by rw [beq_eq_false_iff_ne]; exact hpz
  have HP : Hid (((z.1.p - 1 : Nat) : Int) = (z.1.p : Int) - 1) := by show _ = _; omega
  clear hf hz hfind h hcap hpg hqv hn
  go_enter Try.func42, Try.ntmps42
  go_wp2_with (first | (go_at_call 70; refine Calls.mono HF.out ?_; rintro e w1 ⟨rfl, hb1⟩; have h1 := HH.out.later hb1; have c2 := h1.c2; rw [HV.out] at c2; obtain ⟨e0, e1, e2⟩ := h1.cells HV.out HZ.out; have fz := h1.lfroz HV.out (i * 3 + 1)))
  go_ret
  have h2 := h1.setAt HV.out HZ.out (⟨z.1.b, z.1.p - 1, z.1.xs⟩, z.2) 1 (.int .i64 ((z.1.p : Int) - 1)) (by omega) (by simp [bu3, HP.out]) (h1.byt z (List.mem_of_getElem? HZ.out)) (by show z.1.p - 1 ≤ 100; omega)
  exact ⟨rfl, h2, (frame_of_below hb1).trans (Frame.setCell w1 _ (.inr (by rw [HV.out]; rfl)))⟩
set_option maxHeartbeats 1000000 in
theorem rdrop_pinned (h : RC B w y x lv l A) (hr : RI B w x bv qv fv gB gQ S) (hN : 1 ≤ S.N) (b : Nat) (hb : b < S.N) (i : Nat) (z : BZ) (hz : l[i]? = some z) (hf : fst? l (fun u => (u.b : Int) == (b : Int)) = (i : Int)) (hp : 0 < z.1.p) : Calls Try.prog 43 #[.pointer (some ⟨y, 0, none⟩), .int .i64 (b : Int)] w fun e w' => e = .returned (.int .i64 3) ∧ Below w.heap.size w w' := by
  have c0 := h.c0
  obtain ⟨gb, cb, hbv⟩ := hr.bcase hN
  have d0 := hr.c0
  rw [hbv] at d0
  clear hbv
  have hbI : (b : Int) < (S.N : Int) := by omega
  have hb0 : (0 : Int) ≤ (b : Int) := by omega
  obtain ⟨qp, qc, hqv, hcap, hpg⟩ := h.shape
  have hil := (List.getElem?_eq_some_iff.1 hz).1
  obtain ⟨gl, rfl⟩ := hpg (by omega)
  obtain ⟨n, hn⟩ : ∃ n, n = l.length := ⟨_, rfl⟩
  rw [← hn] at hqv hil
  have hi0 : (0 : Int) ≤ (i : Int) := by omega
  have hiI : (i : Int) < (n : Int) := by omega
  have HNl := (show Hid (n = l.length) from hn)
  have HV := (show Hid _ from hqv)
  have HZ := (show Hid _ from hz)
  have HH := (show Hid _ from h)
  have hfind := rfind_ok h (b : Int)
  rw [hf] at hfind
  have HF := (show Hid _ from hfind)
  have hpI : (0 : Int) < (z.1.p : Int) := by omega
  clear hf hz hfind h hcap hpg hqv hn
  go_enter Try.func43, Try.ntmps43
  go_wp2_with (first | (go_at_call 70; refine Calls.mono HF.out ?_; rintro e w1 ⟨rfl, hb1⟩; have h1 := HH.out.later hb1; have c2 := h1.c2; rw [HV.out] at c2; obtain ⟨e0, e1, e2⟩ := h1.cells HV.out HZ.out))
  go_ret
  exact ⟨rfl, hb1⟩
set_option maxHeartbeats 1000000 in
theorem rdrop_ok (h : RC B w y x lv l A) (hB : B ≤ w.heap.size) (hr : RI B w x bv qv fv gB gQ S) (hN : 1 ≤ S.N) (b : Nat) (hb : b < S.N) (i : Nat) (z : BZ) (hz : l[i]? = some z) (hf : fst? l (fun u => (u.b : Int) == (b : Int)) = (i : Int)) (hp : z.1.p = 0) :
    Calls Try.prog 43 #[.pointer (some ⟨y, 0, none⟩), .int .i64 (b : Int)] w fun e w' => ∃ lv', e = .returned (.int .i64 0) ∧ RC B w' y x lv' (l.eraseIdx i) { A with l := (l.eraseIdx i).map (·.1) } ∧ Frame (fun k => k = y) w w' := by
  have c0 := h.c0
  obtain ⟨gb, cb, hbv⟩ := hr.bcase hN
  have d0 := hr.c0
  rw [hbv] at d0
  clear hbv
  have hbI : (b : Int) < (S.N : Int) := by omega
  have hb0 : (0 : Int) ≤ (b : Int) := by omega
  obtain ⟨qp, qc, hqv, hcap, hpg⟩ := h.shape
  have hil := (List.getElem?_eq_some_iff.1 hz).1
  obtain ⟨gl, rfl⟩ := hpg (by omega)
  obtain ⟨n, hn⟩ : ∃ n, n = l.length := ⟨_, rfl⟩
  rw [← hn] at hqv hil
  have hi0 : (0 : Int) ≤ (i : Int) := by omega
  have hiI : (i : Int) < (n : Int) := by omega
  have HNl := (show Hid (n = l.length) from hn)
  have HV := (show Hid _ from hqv)
  have HZ := (show Hid _ from hz)
  have HH := (show Hid _ from h)
  have hfind := rfind_ok h (b : Int)
  rw [hf] at hfind
  have HF := (show Hid _ from hfind)
  clear hf hz hfind h hcap hpg hqv hn
  go_enter Try.func43, Try.ntmps43
  go_wp2_with (first
    | (go_at_call 70; refine Calls.mono HF.out ?_; rintro e w1 ⟨rfl, hb1⟩; have h1 := HH.out.later hb1; have c2 := h1.c2; rw [HV.out] at c2; obtain ⟨e0, e1, e2⟩ := h1.cells HV.out HZ.out; rw [hp] at e1; have hwo := without_ok h1 (Nat.le_trans hB hb1.size) i (by rw [← HNl.out]; exact hil))
    | (go_at_call 71; refine Calls.mono hwo ?_; rintro e w2 ⟨v2, lv2, rfl, h2, hf2, _⟩))
  go_ret
  exact ⟨lv2, rfl, h2, (frame_of_below hb1).trans hf2⟩
end
section
variable {B : Nat} {w w' : World} {x y : Nat} {lv bv qv fv : Value} {l : List BZ} {gB gQ : List (Nat × Nat)} {A : Ca} {S : St}
set_option maxHeartbeats 2000000 in
theorem rput_hit (h : RC B w y x lv l A) (hB : B ≤ w.heap.size) (hr : RI B w x bv qv fv gB gQ S) (hN : 1 ≤ S.N) (b : Nat) (hb : b < S.N) (i : Nat) (z : BZ) (hz : l[i]? = some z) (hf : fst? l (fun u => (u.b : Int) == (b : Int)) = (i : Int)) (a : Addr) (cp : Nat) (xs : List Int) (hx : BI w (some a) 128 xs) :
    Calls Try.prog 40 #[.pointer (some ⟨y, 0, none⟩), .int .i64 (b : Int), .slice (some a) 128 cp] w fun e w' => ∃ g cap, e = .returned (.int .i64 0) ∧ w.heap.size ≤ g ∧ RC B w' y x lv (l.set i (⟨z.1.b, z.1.p, xs⟩, (g, cap))) { A with l := (l.set i (⟨z.1.b, z.1.p, xs⟩, (g, cap))).map (·.1) } ∧ Frame (rcw y lv) w w' := by
  have c0 := h.c0
  obtain ⟨gb, cb, hbv⟩ := hr.bcase hN
  have d0 := hr.c0
  rw [hbv] at d0
  clear hbv
  have hbI : (b : Int) < (S.N : Int) := by omega
  have hb0 : (0 : Int) ≤ (b : Int) := by omega
  obtain ⟨qp, qc, hqv, hcap, hpg⟩ := h.shape
  have hil := (List.getElem?_eq_some_iff.1 hz).1
  obtain ⟨gl, rfl⟩ := hpg (by omega)
  obtain ⟨n, hn⟩ : ∃ n, n = l.length := ⟨_, rfl⟩
  rw [← hn] at hqv hil
  have hi0 : (0 : Int) ≤ (i : Int) := by omega
  have hiI : (i : Int) < (n : Int) := by omega
  have HNl := (show Hid (n = l.length) from hn)
  have HV := (show Hid _ from hqv)
  have HZ := (show Hid _ from hz)
  have HH := (show Hid _ from h)
  have hfind := rfind_ok h (b : Int)
  rw [hf] at hfind
  have HF := (show Hid _ from hfind)
  have HX := (show Hid _ from hx)
  have hpz := h.ps z (List.mem_of_getElem? hz)
  clear hf hz hfind h hcap hpg hqv hn hx
  go_enter Try.func40, Try.ntmps40
  go_wp2_with fail
  refine Calls.mono HF.out ?_
  rintro e w1 ⟨rfl, hb1⟩
  have h1 := HH.out.later hb1
  have hx1 := HX.out.kept hb1
  obtain ⟨g, cap, w2, hr2, ho2, hb2⟩ := run_copy (w := w1.drew) 29 a cp xs (hx1.kept (Below.refl _ _).drew)
  have hr2 : (Builtin.append_ #[29, 29] 29 #[.slice (some ⟨w1.heap.size, 0, none⟩) 0 0, .slice (some a) 128 cp]).run Try.prog (w1.alloc (.cells #[] 5)).drew = .ok (.slice (some ⟨g, 0, none⟩) 128 cap) w2 := hr2
  have hb2 : Below w1.heap.size w1 w2 := ((Below.refl w1.heap.size w1).drew).trans hb2
  have h2 := h1.later hb2
  have hd := h1.later (Below.refl _ _).drew
  have h3 := h1.later (((Below.refl w1.heap.size w1).alloc (Nat.le_refl _) (.cells #[] 5)).drew)
  have k1 := hd.c2
  have k2 := h3.c2
  have k3 := h2.c2
  rw [HV.out] at k1 k2 k3
  obtain ⟨e0, e1, e2⟩ := h2.cells HV.out HZ.out
  have fz := h2.lfroz HV.out (i * 3 + 2)
  have H2 := (show Hid _ from h2)
  have HO := (show Hid _ from ho2)
  have HR2 := (show Hid _ from hr2)
  clear h1 h2 hd h3 hr2 ho2 hx1 e0 e1
  go_wp2_with fail
  go_region_law (refine step_append_run (by rfl) _ _ 29 29 (by rfl) _ _ (by rfl) (by rfl) _ _ HR2.out ?_)
  all_goals (
    go_wp2
    go_ret
    have ho : Own w1.heap.size w2 g 128 cap xs := HO.out
    have hg : w.heap.size ≤ g := Nat.le_trans hb1.size ho.spot.1
    have hs : Sect xs := ⟨HX.out.len, HX.out.byt⟩
    have h4 := H2.out.setAt HV.out HZ.out (⟨z.1.b, z.1.p, xs⟩, (g, cap)) 2 (.slice (some ⟨g, 0, none⟩) 128 cap) (by omega) (by simp [bu3]) ⟨ho.base (Nat.le_trans hB hb1.size), hs⟩ hpz
    exact ⟨g, cap, rfl, hg, h4, ((frame_of_below hb1).trans (frame_of_below hb2)).trans (Frame.setCell w2 _ (.inr (by rw [HV.out]; rfl)))⟩)

set_option maxHeartbeats 1000000 in
theorem rpin_err (b : Int) (er : Int) (R : World → World → Prop) (hr : ¬ er = 0) (hG : Calls Try.prog 38 #[.pointer (some ⟨y, 0, none⟩), .int .i64 b] w fun e w' => ∃ p n cp, e = .returned (.tuple #[.slice p n cp, .int .i64 er]) ∧ R w w') :
    Calls Try.prog 41 #[.pointer (some ⟨y, 0, none⟩), .int .i64 b] w fun e w' => e = .returned (.int .i64 er) ∧ R w w' := by
  have hr' : (er != 0) = true := by rw [bne_iff_ne]; exact hr
  go_enter Try.func41, Try.ntmps41
  go_wp2_with (first | (go_at_call 38; refine Calls.mono hG ?_; rintro e w1 ⟨p, n, cp, rfl, hR⟩))
  go_ret
  exact ⟨rfl, hR⟩
set_option maxHeartbeats 1000000 in
theorem rpin_ok (b : Nat) (Φ : World → Value → List BZ → Ca → Prop) (hG : Calls Try.prog 38 #[.pointer (some ⟨y, 0, none⟩), .int .i64 (b : Int)] w fun e w' => ∃ p n cp lv1 l1 A1, e = .returned (.tuple #[.slice p n cp, .int .i64 0]) ∧ RC B w' y x lv1 l1 A1 ∧ Φ w' lv1 l1 A1)
    (hΦ : ∀ w' lv1 l1 A1, Φ w' lv1 l1 A1 → ∃ (i : Nat) (z : BZ), l1[i]? = some z ∧ fst? l1 (fun u => (u.b : Int) == (b : Int)) = (i : Int) ∧ z.1.p < 100) :
    Calls Try.prog 41 #[.pointer (some ⟨y, 0, none⟩), .int .i64 (b : Int)] w fun e w' => ∃ w1 lv1 l1 A1 i z, e = .returned (.int .i64 0) ∧ Φ w1 lv1 l1 A1 ∧ RC B w1 y x lv1 l1 A1 ∧ l1[i]? = some z ∧ fst? l1 (fun u => (u.b : Int) == (b : Int)) = ((i : Nat) : Int) ∧
      RC B w' y x lv1 (l1.set i (⟨z.1.b, z.1.p + 1, z.1.xs⟩, z.2)) { A1 with l := (l1.set i (⟨z.1.b, z.1.p + 1, z.1.xs⟩, z.2)).map (·.1) } ∧ Frame (rcw y lv1) w1 w' := by
  have HΦ := (show Hid _ from hΦ)
  clear hΦ
  go_enter Try.func41, Try.ntmps41
  go_wp2_with fail
  refine Calls.mono hG ?_
  rintro e w1 ⟨p, n, cp, lv1, l1, A1, rfl, h1, hp1⟩
  obtain ⟨i, z, hz, hf, hlt⟩ := HΦ.out w1 lv1 l1 A1 hp1
  obtain ⟨qp, qc, hqv, hcap, hpg⟩ := h1.shape
  have hil := (List.getElem?_eq_some_iff.1 hz).1
  obtain ⟨gl, rfl⟩ := hpg (by omega)
  obtain ⟨n1, hn⟩ : ∃ n1, n1 = l1.length := ⟨_, rfl⟩
  rw [← hn] at hqv hil
  have hi0 : (0 : Int) ≤ (i : Int) := by omega
  have hiI : (i : Int) < (n1 : Int) := by omega
  have hfind := rfind_ok h1 (b : Int)
  rw [hf] at hfind
  have HF := (show Hid _ from hfind)
  have HV := (show Hid _ from hqv)
  have HZ := (show Hid _ from hz)
  have HH := (show Hid _ from h1)
  have HFS := (show Hid _ from hf)
  have HPP := (show Hid _ from hp1)
  have hpI : (z.1.p : Int) < 100 := by omega
  have hp0 : (0 : Int) ≤ (z.1.p : Int) := by omega
  clear hf hz hfind h1 hcap hpg hqv hn hp1 hG
  go_wp2_with (first | (go_at_call 70; refine Calls.mono HF.out ?_; rintro e w2 ⟨rfl, hb2⟩; have h2 := HH.out.later hb2; have c2 := h2.c2; rw [HV.out] at c2; obtain ⟨e0, e1, e2⟩ := h2.cells HV.out HZ.out; have fz := h2.lfroz HV.out (i * 3 + 1)))
  go_ret
  have h3 := h2.setAt HV.out HZ.out (⟨z.1.b, z.1.p + 1, z.1.xs⟩, z.2) 1 (.int .i64 ((z.1.p : Int) + 1)) (by omega) (by simp [bu3]) (h2.byt z (List.mem_of_getElem? HZ.out)) (by show z.1.p + 1 ≤ 100; omega)
  exact ⟨w1, lv1, l1, A1, i, z, rfl, HPP.out, HH.out, HZ.out, HFS.out, h3, (frame_of_below hb2).trans (Frame.setCell w2 _ (.inr (by rw [HV.out]; rfl)))⟩
set_option maxHeartbeats 1000000 in
theorem rpin_full (b : Nat) (Φ : World → Value → List BZ → Ca → Prop) (hG : Calls Try.prog 38 #[.pointer (some ⟨y, 0, none⟩), .int .i64 (b : Int)] w fun e w' => ∃ p n cp lv1 l1 A1, e = .returned (.tuple #[.slice p n cp, .int .i64 0]) ∧ RC B w' y x lv1 l1 A1 ∧ Φ w' lv1 l1 A1)
    (hΦ : ∀ w' lv1 l1 A1, Φ w' lv1 l1 A1 → ∃ (i : Nat) (z : BZ), l1[i]? = some z ∧ fst? l1 (fun u => (u.b : Int) == (b : Int)) = (i : Int) ∧ 100 ≤ z.1.p) :
    Calls Try.prog 41 #[.pointer (some ⟨y, 0, none⟩), .int .i64 (b : Int)] w fun e w' => ∃ w1 lv1 l1 A1, e = .returned (.int .i64 3) ∧ Φ w1 lv1 l1 A1 ∧ RC B w1 y x lv1 l1 A1 ∧ Below w1.heap.size w1 w' := by
  have HΦ := (show Hid _ from hΦ)
  clear hΦ
  go_enter Try.func41, Try.ntmps41
  go_wp2_with fail
  refine Calls.mono hG ?_
  rintro e w1 ⟨p, n, cp, lv1, l1, A1, rfl, h1, hp1⟩
  obtain ⟨i, z, hz, hf, hlt⟩ := HΦ.out w1 lv1 l1 A1 hp1
  obtain ⟨qp, qc, hqv, hcap, hpg⟩ := h1.shape
  have hil := (List.getElem?_eq_some_iff.1 hz).1
  obtain ⟨gl, rfl⟩ := hpg (by omega)
  obtain ⟨n1, hn⟩ : ∃ n1, n1 = l1.length := ⟨_, rfl⟩
  rw [← hn] at hqv hil
  have hi0 : (0 : Int) ≤ (i : Int) := by omega
  have hiI : (i : Int) < (n1 : Int) := by omega
  have hfind := rfind_ok h1 (b : Int)
  rw [hf] at hfind
  have HF := (show Hid _ from hfind)
  have HV := (show Hid _ from hqv)
  have HZ := (show Hid _ from hz)
  have HH := (show Hid _ from h1)
  have HPP := (show Hid _ from hp1)
  have hpI : (100 : Int) ≤ (z.1.p : Int) := by omega
  clear hf hz hfind h1 hcap hpg hqv hn hp1 hG
  go_wp2_with (first | (go_at_call 70; refine Calls.mono HF.out ?_; rintro e w2 ⟨rfl, hb2⟩; have h2 := HH.out.later hb2; have c2 := h2.c2; rw [HV.out] at c2; obtain ⟨e0, e1, e2⟩ := h2.cells HV.out HZ.out))
  go_ret
  exact ⟨w1, lv1, l1, A1, rfl, HPP.out, HH.out, hb2⟩
end
section
variable {B : Nat} {w w' : World} {x y : Nat} {lv bv qv fv : Value} {l : List BZ} {gB gQ : List (Nat × Nat)} {A : Ca} {S : St}

theorem RI.noty (hr : RI B w x bv qv fv gB gQ S) {k : Nat} {cs : Array Value} {t : TypeId} (h : w.heap[k]? = some (.cells cs t (0, 0))) (h1 : t ≠ 105) (h2 : t ≠ 29) (h3 : t ≠ 111) (h4 : t ≠ 3) (h5 : t ≠ 5) : ¬ (rfoot x bv qv fv k ∨ rrows gB gQ k) := by
  rintro (hk | ⟨p, hp, rfl⟩ | ⟨p, hp, rfl⟩)
  · exact hr.notin h h1 h2 h3 h4 hk
  · obtain ⟨i, hi⟩ := List.mem_iff_getElem?.1 hp
    obtain ⟨cs', e⟩ := own_ty (hr.bel i p hi) (k := p.1) rfl
    rw [h] at e
    simp only [Option.some.injEq, Obj.cells.injEq] at e
    exact h5 e.2.1
  · obtain ⟨i, hi⟩ := List.mem_iff_getElem?.1 hp
    have hil := (List.getElem?_eq_some_iff.1 hi).1
    rw [hr.qlen] at hil
    obtain ⟨cs', e⟩ := own_ty (hr.qel i _ p (List.getElem?_eq_getElem hil) hi) (k := p.1) rfl
    rw [h] at e
    simp only [Option.some.injEq, Obj.cells.injEq] at e
    exact h5 e.2.1
/-- What the document's cache writes is none of its disk's. -/
theorem RC.keepD (h : RC B w y x lv l A) (hr : RI B w x bv qv fv gB gQ S) (hf : Frame (rcw y lv) w w') : RI B w' x bv qv fv gB gQ S :=
  hr.kept fun k hk => hf.block k (hr.in hk).2 (fun e => by
    rcases e with rfl | e
    · exact hr.noty h.row (by decide) (by decide) (by decide) (by decide) (by decide) hk
    · obtain ⟨cs, e'⟩ := own_ty h.lst e
      exact hr.noty e' (by decide) (by decide) (by decide) (by decide) (by decide) hk)
/-- What the disk writes is none of the cache's. -/
theorem RC.keepR (h : RC B w y x lv l A) (hr : RI B w x bv qv fv gB gQ S) (hf : Frame (rfoot x bv qv fv) w w') : RC B w' y x lv l A :=
  h.kept fun k hk => hf.block k (h.in k hk).2 (fun e => by
    rcases hk with rfl | hk | ⟨z, hz, rfl⟩
    · exact hr.notin h.row (by decide) (by decide) (by decide) (by decide) e
    · obtain ⟨cs, e'⟩ := own_ty h.lst hk
      exact hr.notin e' (by decide) (by decide) (by decide) (by decide) e
    · obtain ⟨cs, e'⟩ := own_ty (h.byt z hz).1 (k := z.2.1) rfl
      exact hr.notin e' (by decide) (by decide) (by decide) (by decide) e)

set_option maxHeartbeats 2000000 in
theorem rget_pinned (h : RC B w y x lv l A) (hr : RI B w x bv qv fv gB gQ S) (hN : 1 ≤ S.N) (b : Nat) (hb : b < S.N) (hf : fst? l (fun u => (u.b : Int) == (b : Int)) = -1) (hfull : A.bd ≤ l.length) (hv : fst? l (fun u => u.p == 0) = -1) (hc : A.hi + A.mi < 4611686018427387904) :
    Calls Try.prog 38 #[.pointer (some ⟨y, 0, none⟩), .int .i64 (b : Int)] w fun e w' => e = .returned (.tuple #[.slice none 0 0, .int .i64 60]) ∧ RC B w' y x lv l { A with mi := A.mi + 1 } ∧ Frame (fun k => k = y) w w' := by
  have c0 := h.c0
  obtain ⟨gb, cb, hbv⟩ := hr.bcase hN
  have d0 := hr.c0
  rw [hbv] at d0
  have hfind := rfind_ok h (b : Int)
  rw [hf] at hfind
  have hbI : (b : Int) < (S.N : Int) := by omega
  have hb0 : (0 : Int) ≤ (b : Int) := by omega
  obtain ⟨qp, qc, hqv, hcap, hpg⟩ := h.shape
  obtain ⟨n, hn⟩ : ∃ n, n = l.length := ⟨_, rfl⟩
  rw [← hn] at hqv hfull
  have HV := (show Hid _ from hqv)
  have hwr : IntKind.i64.wrap ((A.mi : Int) + 1) = (A.mi : Int) + 1 := by rw [IntKind.wrap_i64]; omega
  have hfd : decide (A.bd ≤ n) = true := decide_eq_true hfull
  have HC := (show Hid _ from hc)
  have HH := (show Hid _ from h)
  have HF := (show Hid _ from hfind)
  have HVi := (show Hid _ from hv)
  clear hbv hn hpg hcap hf hqv hc h hfind hr hv hfull
  go_enter Try.func38, Try.ntmps38
  go_wp2_with fail
  refine Calls.mono HF.out ?_
  rintro e w1 ⟨rfl, hb1⟩
  have h1 := HH.out.later hb1
  have c4 := h1.c4
  have fz4 := h1.froz 4
  have h2 := h1.misses HC.out
  have c2 := h2.c2
  have c1 := h2.c1
  rw [HV.out] at c2
  have hvi := rvictim_ok (h2.later (Below.refl _ _))
  go_wp2_with fail
  have hf2 : Frame (fun k => k = y) w (w1.setCell ⟨y, 4, none⟩ (.int .i64 ((A.mi : Int) + 1))) := (frame_of_below hb1).trans (Frame.setCell w1 (p := ⟨y, 4, none⟩) _ rfl)
  clear c4 fz4 hvi
  generalize w1.setCell ⟨y, 4, none⟩ (.int .i64 ((A.mi : Int) + 1)) = w2 at *
  go_quiet (fail)
  have hbq := below_drewN (Below.refl w2.heap.size w2) nq
  have h3 := h2.later hbq
  have hvi := rvictim_ok h3
  rw [HVi.out] at hvi
  have HI := (show Hid _ from hvi)
  have hf3 := hf2.trans (frame_of_below hbq)
  clear hvi h2 hf2 c1 c2 hbq
  generalize w2.drewN nq = w3 at *
  go_wp2_with (first | (go_at_call 72; refine Calls.mono HI.out ?_; rintro e w4 ⟨rfl, hb4⟩))
  go_ret2
  exact ⟨rfl, h3.later hb4, hf3.trans (frame_of_below hb4)⟩

set_option maxHeartbeats 2000000 in
theorem rget_err (h : RC B w y x lv l A) (hr : RI B w x bv qv fv gB gQ S) (hN : 1 ≤ S.N) (b : Nat) (hb : b < S.N) (hf : fst? l (fun u => (u.b : Int) == (b : Int)) = -1) (hS : Ok S) (hfull : A.bd ≤ l.length → ∃ v : Nat, fst? l (fun u => u.p == 0) = (v : Int)) (hr0 : ¬ (aRead S (b : Int)).2.2.1 = 0) (hc : A.hi + A.mi < 4611686018427387904) :
    Calls Try.prog 38 #[.pointer (some ⟨y, 0, none⟩), .int .i64 (b : Int)] w fun e w' => e = .returned (.tuple #[.slice none 0 0, .int .i64 (aRead S (b : Int)).2.2.1]) ∧ RC B w' y x lv l { A with mi := A.mi + 1 } ∧ RI B w' x bv qv fv gB gQ (aRead S (b : Int)).2.2.2 ∧ Frame (fun k => k = y ∨ rfoot x bv qv fv k) w w' := by
  obtain ⟨er, her⟩ : ∃ er, (aRead S (b : Int)).2.2.1 = er := ⟨_, rfl⟩
  have hrd := fun w4 (h4 : RI B w4 x bv qv fv gB gQ S) => rRead h4 hS (b : Int)
  rw [her] at hr0 ⊢
  simp only [her] at hrd
  have HRD := (show Hid _ from hrd)
  have hr' : (er != 0) = true := by rw [bne_iff_ne]; exact hr0
  clear hrd her
  have c0 := h.c0
  obtain ⟨gb, cb, hbv⟩ := hr.bcase hN
  have d0 := hr.c0
  rw [hbv] at d0
  have hfind := rfind_ok h (b : Int)
  rw [hf] at hfind
  have hbI : (b : Int) < (S.N : Int) := by omega
  have hb0 : (0 : Int) ≤ (b : Int) := by omega
  obtain ⟨qp, qc, hqv, hcap, hpg⟩ := h.shape
  obtain ⟨n, hn⟩ : ∃ n, n = l.length := ⟨_, rfl⟩
  rw [← hn] at hqv hfull
  have HV := (show Hid _ from hqv)
  have hwr : IntKind.i64.wrap ((A.mi : Int) + 1) = (A.mi : Int) + 1 := by rw [IntKind.wrap_i64]; omega
  have HC := (show Hid _ from hc)
  have HH := (show Hid _ from h)
  have HF := (show Hid _ from hfind)
  have HVi := (show Hid _ from hfull)
  have HR := (show Hid _ from hr)
  have HSo := (show Hid _ from hS)
  clear hbv hn hpg hcap hf hqv hc h hfind hr hfull hS
  go_enter Try.func38, Try.ntmps38
  go_wp2_with fail
  refine Calls.mono HF.out ?_
  rintro e w1 ⟨rfl, hb1⟩
  have h1 := HH.out.later hb1
  have c4 := h1.c4
  have fz4 := h1.froz 4
  have h2 := h1.misses HC.out
  have c2 := h2.c2
  have c1 := h2.c1
  rw [HV.out] at c2
  go_wp2_with fail
  have hf2 : Frame (fun k => k = y) w (w1.setCell ⟨y, 4, none⟩ (.int .i64 ((A.mi : Int) + 1))) := (frame_of_below hb1).trans (Frame.setCell w1 (p := ⟨y, 4, none⟩) _ rfl)
  clear c4 fz4
  generalize w1.setCell ⟨y, 4, none⟩ (.int .i64 ((A.mi : Int) + 1)) = w2 at *
  go_quiet (fail)
  have hbq := below_drewN (Below.refl w2.heap.size w2) nq
  have h3 := h2.later hbq
  have hf3 := hf2.trans (frame_of_below hbq)
  have hri3 : RI B (w2.drewN nq) x bv qv fv gB gQ S := HH.out.keepD HR.out (hf3.mono (fun k _ e => .inl e))
  clear h2 hf2 c1 c2 hbq
  generalize w2.drewN nq = w3 at *
  by_cases hfl : A.bd ≤ n
  · obtain ⟨v, hv⟩ := HVi.out hfl
    have hvi := rvictim_ok h3
    rw [hv] at hvi
    have hfd : decide (A.bd ≤ n) = true := decide_eq_true hfl
    have hv0 : (0 : Int) ≤ (v : Int) := by omega
    have HI := (show Hid _ from hvi)
    have y0 := h3.c0
    clear hvi hv hfl
    go_wp2_with (first
      | (go_at_call 72; refine Calls.mono HI.out ?_; rintro e w4 ⟨rfl, hb4⟩; have h4 := h3.later hb4; have hri4 := hri3.later hb4; have y4 := h4.c0; have hrd4 := HRD.out w4 hri4)
      | (go_at_call 73; refine Calls.mono hrd4 ?_; rintro e w5 ⟨p5, c5, rfl, ho5, hri5, hf5⟩))
    go_ret2
    exact ⟨rfl, h4.keepR hri4 hf5, hri5, ((hf3.trans (frame_of_below hb4)).mono (fun k _ e => .inl e)).trans (hf5.mono (fun k _ e => .inr e))⟩
  · have hfd : decide (A.bd ≤ n) = false := decide_eq_false hfl
    have y0 := h3.c0
    clear hfl
    have hrd4 := HRD.out w3 hri3
    go_wp2_with (first
      | (go_at_call 73; refine Calls.mono hrd4 ?_; rintro e w5 ⟨p5, c5, rfl, ho5, hri5, hf5⟩))
    go_ret2
    exact ⟨rfl, h3.keepR hri3 hf5, hri5, (hf3.mono (fun k _ e => .inl e)).trans (hf5.mono (fun k _ e => .inr e))⟩
theorem fst_lt {l : List BZ} {t : Bu → Bool} {v : Nat} (h : fst? l t = (v : Int)) : v < l.length := by
  unfold fst? at h
  split at h
  · rename_i i hi
    have := (List.findIdx?_eq_some_iff_getElem.1 hi).1
    omega
  · omega
theorem frame_or {K X : Nat → Prop} {a b c : World} (h : Frame K a b) (k : Frame X b c) (hx : ∀ i, X i → K i ∨ a.heap.size ≤ i) : Frame K a c :=
  ⟨k.os.trans h.os, k.tape.trans h.tape, k.output.trans h.output, Nat.le_trans h.size k.size, fun i hi hn => (k.block i (Nat.lt_of_lt_of_le hi h.size) (fun e => by rcases hx i e with h' | h'; exact hn h'; omega)).trans (h.block i hi hn)⟩
/-- What is left where one must go. -/
def rroom (l : List BZ) (bd : Nat) : List BZ := if bd ≤ l.length then l.eraseIdx (fst? l (fun u => u.p == 0)).toNat else l
theorem aRead_at {S : St} {b : Nat} (hb : b < S.N) (h0 : S.fl b = 0) : aRead S (b : Int) = (128, S.f b, 0, S) := by
  unfold aRead
  rw [if_neg (by omega)]
  simp [h0]
theorem row_ptr {B : Nat} {w : World} {e : TypeId} {s : Nat} {p : Option Addr} {n m c : Nat} {L : List Value} (h : w.ownsRow B e s (.slice p n c) m L) (hm : 0 < m) : ∃ g, p = some ⟨g, 0, none⟩ := by
  rcases h.2 with ⟨_, e0⟩ | ⟨g, cap, cur, e', _⟩
  · omega
  · obtain ⟨rfl, _⟩ := Value.slice.inj e'
    exact ⟨g, rfl⟩

set_option maxHeartbeats 4000000 in
theorem rget_new (h : RC B w y x lv l A) (hr : RI B w x bv qv fv gB gQ S) (hN : 1 ≤ S.N) (b : Nat) (hb : b < S.N) (hf : fst? l (fun u => (u.b : Int) == (b : Int)) = -1) (hS : Ok S) (hfull : A.bd ≤ l.length → ∃ v : Nat, fst? l (fun u => u.p == 0) = (v : Int)) (hB : B ≤ w.heap.size) (hr0 : S.fl b = 0) (hc : A.hi + A.mi < 4611686018427387904) :
    Calls Try.prog 38 #[.pointer (some ⟨y, 0, none⟩), .int .i64 (b : Int)] w fun e w' => ∃ g cap gx cx lv', e = .returned (.tuple #[.slice (some ⟨g, 0, none⟩) 128 cap, .int .i64 0]) ∧ Own w.heap.size w' g 128 cap (S.f b) ∧ w.heap.size ≤ gx ∧
      RC B w' y x lv' (rroom l A.bd ++ [((⟨b, 0, S.f b⟩ : Bu), (gx, cx))]) { A with mi := A.mi + 1, l := (rroom l A.bd ++ [((⟨b, 0, S.f b⟩ : Bu), (gx, cx))]).map (·.1) } ∧ RI B w' x bv qv fv gB gQ S ∧ Frame (fun k => rcw y lv k ∨ rfoot x bv qv fv k) w w' := by
  have hrd := fun w4 (h4 : RI B w4 x bv qv fv gB gQ S) => rRead h4 hS (b : Int)
  rw [aRead_at hb hr0] at hrd
  have HRD := (show Hid _ from hrd)
  have hsec : Sect (S.f b) := hS.sec b
  have HB := (show Hid _ from hB)
  have HSC := (show Hid _ from hsec)
  clear hrd hr0 hsec hB
  have c0 := h.c0
  obtain ⟨gb, cb, hbv⟩ := hr.bcase hN
  have d0 := hr.c0
  rw [hbv] at d0
  have hfind := rfind_ok h (b : Int)
  rw [hf] at hfind
  have hbI : (b : Int) < (S.N : Int) := by omega
  have hb0 : (0 : Int) ≤ (b : Int) := by omega
  obtain ⟨qp, qc, hqv, hcap, hpg⟩ := h.shape
  obtain ⟨n, hn⟩ : ∃ n, n = l.length := ⟨_, rfl⟩
  have HNl := (show Hid (n = l.length) from hn)
  rw [← hn] at hqv hfull
  have HBD := (show Hid (A.bd ≤ 64) from h.bd.2)
  have HV := (show Hid _ from hqv)
  have hwr : IntKind.i64.wrap ((A.mi : Int) + 1) = (A.mi : Int) + 1 := by rw [IntKind.wrap_i64]; omega
  have HC := (show Hid _ from hc)
  have HH := (show Hid _ from h)
  have HF := (show Hid _ from hfind)
  have HVi := (show Hid _ from hfull)
  have HR := (show Hid _ from hr)
  have HSo := (show Hid _ from hS)
  clear hbv hn hpg hcap hf hqv hc h hfind hr hfull hS
  go_enter Try.func38, Try.ntmps38
  go_wp2_with fail
  refine Calls.mono HF.out ?_
  rintro e w1 ⟨rfl, hb1⟩
  have h1 := HH.out.later hb1
  have c4 := h1.c4
  have fz4 := h1.froz 4
  have h2 := h1.misses HC.out
  have c2 := h2.c2
  have c1 := h2.c1
  rw [HV.out] at c2
  go_wp2_with fail
  have hf2 : Frame (fun k => k = y) w (w1.setCell ⟨y, 4, none⟩ (.int .i64 ((A.mi : Int) + 1))) := (frame_of_below hb1).trans (Frame.setCell w1 (p := ⟨y, 4, none⟩) _ rfl)
  clear c4 fz4
  generalize w1.setCell ⟨y, 4, none⟩ (.int .i64 ((A.mi : Int) + 1)) = w2 at *
  go_quiet (fail)
  have hbq := below_drewN (Below.refl w2.heap.size w2) nq
  have h3 := h2.later hbq
  have hf3 := hf2.trans (frame_of_below hbq)
  have hri3 : RI B (w2.drewN nq) x bv qv fv gB gQ S := HH.out.keepD HR.out (hf3.mono (fun k _ e => .inl e))
  clear h2 hf2 c1 c2 hbq
  generalize w2.drewN nq = w3 at *
  by_cases hfl : A.bd ≤ n
  · obtain ⟨v, hv⟩ := HVi.out hfl
    have hvl : v < n := by have := fst_lt hv; rw [← HNl.out] at this; exact this
    have hvi := rvictim_ok h3
    rw [hv] at hvi
    have hfd : decide (A.bd ≤ n) = true := decide_eq_true hfl
    have hv0 : (0 : Int) ≤ (v : Int) := by omega
    have HI := (show Hid _ from hvi)
    have HVv := (show Hid _ from hv)
    have HFL := (show Hid _ from hfl)
    have y0 := h3.c0
    clear hvi hv hfl
    go_wp2_with fail
    refine Calls.mono HI.out ?_
    rintro e w4 ⟨rfl, hb4⟩
    have h4 := h3.later hb4
    have hri4 := hri3.later hb4
    have y4 := h4.c0
    have hf4 := hf3.trans (frame_of_below hb4)
    have hrd4 := HRD.out w4 hri4
    clear h3 hri3 hf3 y0
    go_wp2_with fail
    refine Calls.mono hrd4 ?_
    rintro e w5 ⟨p5, c5, rfl, ho5, hri5, hf5⟩
    have h5 := h4.keepR hri4 hf5
    obtain ⟨gx, rfl⟩ := row_ptr ho5 (by omega)
    have hox0 : Own w.heap.size w5 gx 128 c5 (S.f b) := Own.base ho5 hf4.size
    have hgx := hox0.spot.1
    have hff5 : Frame (fun k => rcw y lv k ∨ rfoot x bv qv fv k) w w5 := (hf4.mono (fun k _ e => .inl (.inl e))).trans (hf5.mono (fun k _ e => .inr e))
    have hvi5 := rvictim_ok h5
    rw [HVv.out] at hvi5
    clear h4 hri4 hf4 y4 hrd4 HI hf5 ho5
    go_wp2_with fail
    refine Calls.mono hvi5 ?_
    rintro e w5b ⟨rfl, hb5b⟩
    have h5b := h5.later hb5b
    have hri5b := hri5.later hb5b
    have hox1 := hox0.kept hb5b
    have hff5b := hff5.trans (frame_of_below hb5b)
    have hwo := without_ok h5b (Nat.le_trans HB.out hff5b.size) v (by rw [← HNl.out]; exact hvl)
    clear h5 hri5 hff5 hvi5 hox0
    go_wp2_with fail
    refine Calls.mono hwo ?_
    rintro e w5c ⟨v71, lv5, rfl, h5c, hf5c, hlo5c⟩
    have hri5c := h5b.keepD hri5b (hf5c.mono (fun k _ e => .inl e))
    have hff5c := hff5b.trans (hf5c.mono (fun k _ e => .inl (.inl e)))
    have hlo5 : ∀ k, lv5.ownBlock = some k → w.heap.size ≤ k := fun k hk => Nat.le_trans hff5b.size (hlo5c k hk)
    have hox : Own w.heap.size w5c gx 128 c5 (S.f b) := hox1.at (hf5c.block gx hox1.spot.2 (by
      rintro rfl
      obtain ⟨cs, e'⟩ := own_ty hox1 rfl
      rw [h5b.row] at e'; simp at e'))
    obtain ⟨LE, hLE⟩ : ∃ LE, l.eraseIdx v = LE := ⟨_, rfl⟩
    have hle0 : LE.length < 64 := by rw [← hLE, List.length_eraseIdx_of_lt (by rw [← HNl.out]; exact hvl)]; have := HH.out.len; have := HNl.out; omega
    rw [hLE] at h5c
    have HLE : Hid (l.eraseIdx (v : Int).toNat = LE) := by show _ = _; rw [Int.toNat_natCast]; exact hLE
    clear hLE h5b hri5b hox1 hff5b hwo hf5c hlo5c hb5b
    have hle64 : LE.length < 64 := hle0
    have hB5 : B ≤ w5c.heap.size := Nat.le_trans HB.out hff5c.size
    obtain ⟨p4, cap4, hlv4, hcp4, _⟩ := h5c.shape
    have hbW : Below w5c.heap.size w5c (w5c.alloc (.cells #[.int .i64 (b : Int), .int .i64 0, .slice (some ⟨gx, 0, none⟩) 128 c5] 95)) := (Below.refl w5c.heap.size w5c).alloc (Nat.le_refl _) _
    have hrowW : (w5c.alloc (.cells #[.int .i64 (b : Int), .int .i64 0, .slice (some ⟨gx, 0, none⟩) 128 c5] 95)).heap[w5c.heap.size]? = some (.cells #[.int .i64 (b : Int), .int .i64 0, .slice (some ⟨gx, 0, none⟩) 128 c5] 95 (0, 0)) := World.alloc_heap_new w5c _
    obtain ⟨g6, cap6, w6, hr6, ho6, hg6, hat6⟩ := run_push3 91 h5c hB5 hle64 ((⟨b, 0, S.f b⟩ : Bu), (gx, c5)) (w' := w5c.alloc (.cells #[.int .i64 (b : Int), .int .i64 0, .slice (some ⟨gx, 0, none⟩) 128 c5] 95)) (fun c hc => by
      rw [cell_of_row _ _ c _ 95 _ hrowW]; rcases (by omega : c = 0 ∨ c = 1 ∨ c = 2) with rfl | rfl | rfl <;> rfl) hbW
    have hf6 : Frame (fun k => lv5.ownBlock = some k) w5c w6 := (frame_of_below hbW).trans (frame_of_grown hg6 (fun k hk => hk))
    have hlvt : ∀ k, lv5.ownBlock = some k → ∃ cs, w5c.heap[k]? = some (.cells cs 95 (0, 0)) := fun k hk => own_ty h5c.lst hk
    have hy6 : w6.heap[y]? = w5c.heap[y]? := hf6.block y (Array.getElem?_eq_some_iff.1 h5c.row).1 (fun e => by obtain ⟨cs, e'⟩ := hlvt y e; rw [h5c.row] at e'; simp at e')
    have hbyt6 : ∀ u ∈ LE ++ [((⟨b, 0, S.f b⟩ : Bu), (gx, c5))], Own B w6 u.2.1 128 u.2.2 u.1.xs ∧ Sect u.1.xs := by
      intro u hu
      have hou : Own B w5c u.2.1 128 u.2.2 u.1.xs ∧ Sect u.1.xs := by
        rcases List.mem_append.1 hu with hu | hu
        · exact h5c.byt u hu
        · simp at hu
          subst hu
          exact ⟨hox.base HB.out, HSC.out⟩
      refine ⟨hou.1.at (hf6.block _ hou.1.spot.2 (fun e => ?_)), hou.2⟩
      obtain ⟨cs, e'⟩ := hlvt _ e
      obtain ⟨cs2, e2⟩ := own_ty hou.1 (k := u.2.1) rfl
      rw [e'] at e2; simp at e2
    have h7 := h5c.newL hy6 ho6 hbyt6 (by rw [List.length_append]; simp; omega) (fun u hu => by
      rcases List.mem_append.1 hu with hu | hu
      · exact h5c.ps u hu
      · simp at hu; subst hu; show 0 ≤ 100; omega)
    have hfr7 : Frame (rcw y lv5) w5c (w6.setCell ⟨y, 2, none⟩ (.slice (some ⟨g6, 0, none⟩) (LE.length + 1) cap6)) := (hf6.mono (fun k _ e => .inr e)).trans (Frame.setCell w6 (p := ⟨y, 2, none⟩) _ (.inl rfl))
    have hri7 := h5c.keepD hri5c hfr7
    have q5 := h5c.c2
    have f6 : w6.frozen? ⟨y, 2, none⟩ = false := (World.frozen?_of_block (a := ⟨y, 2, none⟩) hy6).trans (h5c.froz 2)
    have q6 : w6.cell? ⟨y, 2, none⟩ = some lv5 := (World.cell?_of_block (a := ⟨y, 2, none⟩) hy6).trans q5
    rw [hlv4] at q5 q6
    have HR6 := (show Hid _ from hr6)
    rw [hlv4] at HR6
    obtain ⟨m4, hm4⟩ : ∃ m4, LE.length = m4 := ⟨_, rfl⟩
    rw [hm4] at q5 q6 HR6 h7 hfr7 hri7
    have H7 := (show Hid _ from h7)
    have HF7 := (show Hid _ from hfr7)
    have HRI7 := (show Hid _ from hri7)
    have HOX := (show Hid _ from hox)
    obtain ⟨q1, q2⟩ := H7.out.byt ((⟨b, 0, S.f b⟩ : Bu), (gx, c5)) (by simp)
    obtain ⟨g9, cap9, w9, hr9, ho9, hb9⟩ := run_copy 29 ⟨gx, 0, none⟩ c5 (S.f b) (q1.bi (by omega) q2.2)
    rw [show (w6.setCell ⟨y, 2, none⟩ (.slice (some ⟨g6, 0, none⟩) (m4 + 1) cap6)).heap.size = w6.heap.size by simp] at hr9
    have HR9 := (show Hid _ from hr9)
    clear h7 hfr7 hri7 hox hr6 hbyt6 hlvt hg6 ho6 hbW hrowW hm4 hle64 hlv4 hcp4 hf6 hy6 hat6 q1 q2 hr9
    go_wp2_with (first
      | (at_builtin; refine wpList_plain rfl ?_; intro _ hK'; refine Lib.wp_append_run _ (.tmp 105) (.tmp 109) 91 91 (by rfl) (.slice p4 m4 cap4) (.slice (some ⟨w5c.heap.size, 0, none⟩) 1 1) (by rfl) (by rfl) (.slice (some ⟨g6, 0, none⟩) (m4 + 1) cap6) w6 ?hr ?h; (case hr => exact HR6.out); refine hK' _ _ ?_)
      | (at_builtin; refine wpList_plain rfl ?_; intro _ hK'; refine Lib.wp_append_run _ (.tmp 113) (.tmp 114) 29 29 (by rfl) (.slice (some ⟨w6.heap.size, 0, none⟩) 0 0) (.slice (some ⟨gx, 0, none⟩) 128 c5) (by rfl) (by rfl) (.slice (some ⟨g9, 0, none⟩) 128 cap9) w9 ?hr ?h; (case hr => exact HR9.out); refine hK' _ _ ?_))
    go_ret2
    have hrr : rroom l A.bd = LE := by unfold rroom; rw [← HNl.out, if_pos HFL.out, HVv.out]; exact HLE.out
    refine ⟨g9, cap9, gx, c5, .slice (some ⟨g6, 0, none⟩) (m4 + 1) cap6, rfl, ho9.base ?_, hgx, ?_, HRI7.out.later hb9, (frame_or hff5c HF7.out (fun k hk => by rcases hk with e | e; exact .inl (.inl (.inl e)); exact .inr (hlo5 k e))).trans (frame_of_below hb9)⟩
    · exact Nat.le_trans hff5c.size HF7.out.size
    · rw [hrr]
      exact H7.out.later hb9
  · have hfd : decide (A.bd ≤ n) = false := decide_eq_false hfl
    have y0 := h3.c0
    have hrd4 := HRD.out w3 hri3
    have HFL := (show Hid _ from hfl)
    clear hfl
    go_wp2_with fail
    refine Calls.mono hrd4 ?_
    rintro e w5 ⟨p5, c5, rfl, ho5, hri5, hf5⟩
    have h5 := h3.keepR hri3 hf5
    obtain ⟨gx, rfl⟩ := row_ptr ho5 (by omega)
    have hox : Own w.heap.size w5 gx 128 c5 (S.f b) := Own.base ho5 hf3.size
    have hgx := hox.spot.1
    have hff5 : Frame (fun k => rcw y lv k ∨ rfoot x bv qv fv k) w w5 := (hf3.mono (fun k _ e => .inl (.inl e))).trans (hf5.mono (fun k _ e => .inr e))
    have hle64 : l.length < 64 := (by have q1 : ¬ A.bd ≤ n := HFL.out; have q2 : n = l.length := HNl.out; have q3 : A.bd ≤ 64 := HBD.out; omega)
    have hB5 : B ≤ w5.heap.size := Nat.le_trans HB.out hff5.size
    obtain ⟨p4, cap4, hlv4, hcp4, _⟩ := h5.shape
    have hbW : Below w5.heap.size w5 (w5.alloc (.cells #[.int .i64 (b : Int), .int .i64 0, .slice (some ⟨gx, 0, none⟩) 128 c5] 95)) := (Below.refl w5.heap.size w5).alloc (Nat.le_refl _) _
    have hrowW : (w5.alloc (.cells #[.int .i64 (b : Int), .int .i64 0, .slice (some ⟨gx, 0, none⟩) 128 c5] 95)).heap[w5.heap.size]? = some (.cells #[.int .i64 (b : Int), .int .i64 0, .slice (some ⟨gx, 0, none⟩) 128 c5] 95 (0, 0)) := World.alloc_heap_new w5 _
    obtain ⟨g6, cap6, w6, hr6, ho6, hg6, hat6⟩ := run_push3 91 h5 hB5 hle64 ((⟨b, 0, S.f b⟩ : Bu), (gx, c5)) (w' := w5.alloc (.cells #[.int .i64 (b : Int), .int .i64 0, .slice (some ⟨gx, 0, none⟩) 128 c5] 95)) (fun c hc => by
      rw [cell_of_row _ _ c _ 95 _ hrowW]; rcases (by omega : c = 0 ∨ c = 1 ∨ c = 2) with rfl | rfl | rfl <;> rfl) hbW
    have hf6 : Frame (fun k => lv.ownBlock = some k) w5 w6 := (frame_of_below hbW).trans (frame_of_grown hg6 (fun k hk => hk))
    have hlvt : ∀ k, lv.ownBlock = some k → ∃ cs, w5.heap[k]? = some (.cells cs 95 (0, 0)) := fun k hk => own_ty h5.lst hk
    have hy6 : w6.heap[y]? = w5.heap[y]? := hf6.block y (Array.getElem?_eq_some_iff.1 h5.row).1 (fun e => by obtain ⟨cs, e'⟩ := hlvt y e; rw [h5.row] at e'; simp at e')
    have hbyt6 : ∀ u ∈ l ++ [((⟨b, 0, S.f b⟩ : Bu), (gx, c5))], Own B w6 u.2.1 128 u.2.2 u.1.xs ∧ Sect u.1.xs := by
      intro u hu
      have hou : Own B w5 u.2.1 128 u.2.2 u.1.xs ∧ Sect u.1.xs := by
        rcases List.mem_append.1 hu with hu | hu
        · exact h5.byt u hu
        · simp at hu
          subst hu
          exact ⟨hox.base HB.out, HSC.out⟩
      refine ⟨hou.1.at (hf6.block _ hou.1.spot.2 (fun e => ?_)), hou.2⟩
      obtain ⟨cs, e'⟩ := hlvt _ e
      obtain ⟨cs2, e2⟩ := own_ty hou.1 (k := u.2.1) rfl
      rw [e'] at e2; simp at e2
    have h7 := h5.newL hy6 ho6 hbyt6 (by rw [List.length_append]; simp; omega) (fun u hu => by
      rcases List.mem_append.1 hu with hu | hu
      · exact h5.ps u hu
      · simp at hu; subst hu; show 0 ≤ 100; omega)
    have hfr7 : Frame (rcw y lv) w5 (w6.setCell ⟨y, 2, none⟩ (.slice (some ⟨g6, 0, none⟩) (l.length + 1) cap6)) := (hf6.mono (fun k _ e => .inr e)).trans (Frame.setCell w6 (p := ⟨y, 2, none⟩) _ (.inl rfl))
    have hri7 := h5.keepD hri5 hfr7
    have q5 := h5.c2
    have f6 : w6.frozen? ⟨y, 2, none⟩ = false := (World.frozen?_of_block (a := ⟨y, 2, none⟩) hy6).trans (h5.froz 2)
    have q6 : w6.cell? ⟨y, 2, none⟩ = some lv := (World.cell?_of_block (a := ⟨y, 2, none⟩) hy6).trans q5
    rw [hlv4] at q5 q6
    have HR6 := (show Hid _ from hr6)
    rw [hlv4] at HR6
    obtain ⟨m4, hm4⟩ : ∃ m4, l.length = m4 := ⟨_, rfl⟩
    rw [hm4] at q5 q6 HR6 h7 hfr7 hri7
    have H7 := (show Hid _ from h7)
    have HF7 := (show Hid _ from hfr7)
    have HRI7 := (show Hid _ from hri7)
    have HOX := (show Hid _ from hox)
    obtain ⟨q1, q2⟩ := H7.out.byt ((⟨b, 0, S.f b⟩ : Bu), (gx, c5)) (by simp)
    obtain ⟨g9, cap9, w9, hr9, ho9, hb9⟩ := run_copy 29 ⟨gx, 0, none⟩ c5 (S.f b) (q1.bi (by omega) q2.2)
    rw [show (w6.setCell ⟨y, 2, none⟩ (.slice (some ⟨g6, 0, none⟩) (m4 + 1) cap6)).heap.size = w6.heap.size by simp] at hr9
    have HR9 := (show Hid _ from hr9)
    clear h7 hfr7 hri7 hox hr6 hbyt6 hlvt hg6 ho6 hbW hrowW hm4 hle64 hlv4 hcp4 hf6 hy6 hat6 q1 q2 hr9
    go_wp2_with (first
      | (at_builtin; refine wpList_plain rfl ?_; intro _ hK'; refine Lib.wp_append_run _ (.tmp 105) (.tmp 109) 91 91 (by rfl) (.slice p4 m4 cap4) (.slice (some ⟨w5.heap.size, 0, none⟩) 1 1) (by rfl) (by rfl) (.slice (some ⟨g6, 0, none⟩) (m4 + 1) cap6) w6 ?hr ?h; (case hr => exact HR6.out); refine hK' _ _ ?_)
      | (at_builtin; refine wpList_plain rfl ?_; intro _ hK'; refine Lib.wp_append_run _ (.tmp 113) (.tmp 114) 29 29 (by rfl) (.slice (some ⟨w6.heap.size, 0, none⟩) 0 0) (.slice (some ⟨gx, 0, none⟩) 128 c5) (by rfl) (by rfl) (.slice (some ⟨g9, 0, none⟩) 128 cap9) w9 ?hr ?h; (case hr => exact HR9.out); refine hK' _ _ ?_))
    go_ret2
    have hrr : rroom l A.bd = l := by unfold rroom; rw [← HNl.out, if_neg HFL.out]
    refine ⟨g9, cap9, gx, c5, .slice (some ⟨g6, 0, none⟩) (m4 + 1) cap6, rfl, ho9.base ?_, hgx, ?_, HRI7.out.later hb9, (hff5.trans (HF7.out.mono (fun k _ e => .inl e))).trans (frame_of_below hb9)⟩
    · exact Nat.le_trans hff5.size HF7.out.size
    · rw [hrr]
      exact H7.out.later hb9
end
end Go.Proofs.Ytliljdencaocaaa
