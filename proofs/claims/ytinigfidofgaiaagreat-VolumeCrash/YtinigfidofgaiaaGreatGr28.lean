/- VP VK VL -/
import Derived.Test.YtinigfidofgaiaaGreatGr01
import Derived.Test.YtinigfidofgaiaaGreatGr27
import Derived.Deep.Slices
import Derived.Deep.Grids

/- What came in as arguments: calls of a volume, numbers. -/
namespace Go.Proofs.YtinigfidofgaiaaGreat
open Go.ChangeShapes Go.WideShapes Go.ChangeAt Go.RowKit
set_option linter.unusedVariables false

theorem bytes5 : Tryz.prog.bytesOf 5 = 1 := by kernel_rfl
theorem cellsU8 : Tryz.prog.cellsOf 5 = 1 := by kernel_rfl
theorem cells44 : Tryz.prog.cellsOf 44 = 6 := by kernel_rfl
theorem bytes44 : Tryz.prog.bytesOf 44 = 80 := by kernel_rfl
theorem bytes3 : Tryz.prog.bytesOf 3 = 8 := by kernel_rfl
theorem cells3 : Tryz.prog.cellsOf 3 = 1 := by kernel_rfl
theorem cells42 : Tryz.prog.cellsOf 42 = 1 := by kernel_rfl

theorem byt_of_wf {xs : List Int} (h : ∀ n ∈ xs, (Lit.int .u8 n).wf = true) : Num.Byt xs := by
  intro i
  rw [List.getD_eq_getElem?_getD]
  cases hx : xs[i]? with
  | none => simp
  | some x =>
    have := h x (List.mem_of_getElem? hx)
    simp [Lit.wf, IntKind.min, IntKind.max, IntKind.signed, IntKind.bits] at this
    simp only [Option.getD_some]
    omega

theorem rng_of_wf {x : Int} (h : (Lit.int .i64 x).wf = true) : -9223372036854775808 ≤ x ∧ x ≤ 9223372036854775807 := by
  simp [Lit.wf, IntKind.min, IntKind.max, IntKind.signed, IntKind.bits] at h
  omega

theorem weightsAll_mem {H : Type} {P : Program} {e : TypeId} {d : DataW H} {x : Nat} (hx : x ∈ d.weights P e) : ∀ {l : List (DataW H)}, d ∈ l → x ∈ DataW.weightsAll P e l
  | [], h => by cases h
  | y :: r, h => by
    simp only [DataW.weightsAll, List.mem_append]
    rcases List.mem_cons.1 h with rfl | h'
    · exact .inl hx
    · exact .inr (weightsAll_mem hx h')

section
variable {H : Type} {enc : TypeId × Value → H} {W : World}

/-- One cell that reads as bytes. -/
theorem open_bi {v : Value} {d : DataW H} {pl : List MemPlace} {n : Nat} (h : DataW.trod enc Tryz.prog W 0 (fun _ => true) true n 42 [v] = some (d, pl)) (hw : ∀ x ∈ d.weights Tryz.prog 42, x ≤ reachBytes) :
    ∃ p m c xs, v = .slice p m c ∧ m ≤ c ∧ c ≤ 9223372036854775807 ∧ BI W p m xs := by
  rcases open_ints Tryz.underlying42 Tryz.underlying5 cellsU8 h with ⟨hcs, _⟩ | ⟨x, l, c, zs, hcs, _, hl, hm, hz, hx, hcell, hwz⟩
  · simp at hcs
    subst hcs
    exact ⟨none, 0, 0, [], rfl, Nat.le_refl _, by omega, ⟨rfl, by omega, fun i => by simp, fun h => by omega⟩⟩
  · simp at hcs
    subst hcs
    simp only [Prod.mk.injEq] at hx
    obtain ⟨rfl, _⟩ := hx
    simp only [if_true] at hz
    have hw1 := hw ((lits IntKind.u8 (zs.take l) : List (DataW H)).length + (lits IntKind.u8 (zs.drop l) : List (DataW H)).length) (by simp [DataW.weights, Tryz.underlying42, bytes5])
    simp only [lits, List.length_map, List.length_take, List.length_drop, reachBytes] at hw1
    unfold maxLen at hm
    refine ⟨some x, l, c, zs.take l, rfl, hl, by omega, ⟨by rw [List.length_take]; omega, by omega, byt_take (byt_of_wf hwz) _, fun hn => ?_⟩⟩
    obtain ⟨b, off, spot⟩ := x
    have hc := hcell 0 (by omega)
    have hspot : spot = none := by simpa [Addr.add] using World.cell?_spot hc
    subst hspot
    refine ⟨b, off, rfl, fun i hi => ?_⟩
    have hci := hcell i (by omega)
    rw [Addr.add_mid] at hci
    rw [hci, getD_take _ _ _ hi]

theorem open_ii {v : Value} {d : DataW H} {pl : List MemPlace} {n : Nat} (h : DataW.trod enc Tryz.prog W 0 (fun _ => true) true n 23 [v] = some (d, pl)) (hw : ∀ x ∈ d.weights Tryz.prog 23, x ≤ reachBytes) :
    ∃ p m c xs, v = .slice p m c ∧ m ≤ c ∧ c ≤ 9223372036854775807 ∧ m * 8 ≤ 140737488351232 ∧ Pt.II W p m xs := by
  rcases open_ints Tryz.underlying23 Tryz.underlying3 cells3 h with ⟨hcs, _⟩ | ⟨x, l, c, zs, hcs, _, hl, hm, hz, hx, hcell, hwz⟩
  · simp at hcs
    subst hcs
    exact ⟨none, 0, 0, [], rfl, Nat.le_refl _, by omega, by omega, ⟨rfl, by omega, by simp, fun h => by omega⟩⟩
  · simp at hcs
    subst hcs
    simp only [Prod.mk.injEq] at hx
    obtain ⟨rfl, _⟩ := hx
    simp only [if_true] at hz
    have hw1 := hw (((lits IntKind.i64 (zs.take l) : List (DataW H)).length + (lits IntKind.i64 (zs.drop l) : List (DataW H)).length) * 8) (by simp [DataW.weights, Tryz.underlying23, bytes3])
    simp only [lits, List.length_map, List.length_take, List.length_drop, reachBytes] at hw1
    unfold maxLen at hm
    refine ⟨some x, l, c, zs.take l, rfl, hl, by omega, by omega, ⟨by rw [List.length_take]; omega, by omega, fun y hy => rng_of_wf (hwz y (List.mem_of_mem_take hy)), fun hn => ?_⟩⟩
    obtain ⟨b, off, spot⟩ := x
    have hc := hcell 0 (by omega)
    have hspot : spot = none := by simpa [Addr.add] using World.cell?_spot hc
    subst hspot
    refine ⟨b, off, rfl, fun i hi => ?_⟩
    have hci := hcell i (by omega)
    rw [Addr.add_mid] at hci
    rw [hci, getD_take _ _ _ hi]

theorem open_i {v : Value} {d : DataW H} {pl : List MemPlace} {n : Nat} (h : DataW.trod enc Tryz.prog W 0 (fun _ => true) true n 3 [v] = some (d, pl)) : ∃ x, v = .int .i64 x ∧ -9223372036854775808 ≤ x ∧ x ≤ 9223372036854775807 := by
  obtain ⟨x, e, _, hw⟩ := DataW.trod_int Tryz.underlying3 h
  simp at e
  exact ⟨x, e, rng_of_wf hw⟩

set_option maxRecDepth 10000 in
/-- Six cells that read as a call. -/
theorem open_do {b o : Nat} {cs : List Value} {d : DataW H} {pl : List MemPlace} {n : Nat} (hc : ∀ j, j < 6 → W.cell? ⟨b, o + j, none⟩ = cs[j]?) (h : DataW.trod enc Tryz.prog W 0 (fun _ => true) true n 44 cs = some (d, pl)) (hw : ∀ x ∈ d.weights Tryz.prog 44, x ≤ reachBytes) : ∃ x, ∃ bp bn bc ip im ic, DkAt W b o x bp bn bc ip im ic := by
  obtain ⟨xs, k, hk, hxy, hlen, hxl, hf⟩ := DataW.trod_struct Tryz.underlying44 h
  rw [cells44] at hlen
  simp only [Prod.mk.injEq] at hxy
  obtain ⟨rfl, rfl⟩ := hxy
  match xs, hxl, cs, hlen with
  | [y0, y1, y2, y3, y4, y5], _, [v0, v1, v2, v3, v4, v5], _ =>
    have g0 := hf 0 _ rfl
    have g1 := hf 1 _ rfl
    have g2 := hf 2 _ rfl
    have g3 := hf 3 _ rfl
    have g4 := hf 4 _ rfl
    have g5 := hf 5 _ rfl
    simp [cells3, cells42] at g0 g1 g2 g3 g4 g5
    obtain ⟨x0, rfl, r0⟩ := open_i g0
    obtain ⟨x1, rfl, r1⟩ := open_i g1
    obtain ⟨x2, rfl, r2⟩ := open_i g2
    obtain ⟨x3, rfl, r3⟩ := open_i g3
    have hwe : ∀ (j : Nat) (t : TypeId) (dd : DataW H), ([3, 3, 3, 3, 42, 23] : List TypeId)[j]? = some t → ([y0, y1, y2, y3, y4, y5].map (·.1))[j]? = some dd → ∀ x ∈ dd.weights Tryz.prog t, x ≤ reachBytes := by
      intro j t dd ht hd x hx
      apply hw
      simp only [DataW.weights, Tryz.underlying44]
      exact DataW.weights_mem_each ht hd x hx
    obtain ⟨p4, m4, c4, z4, rfl, a4, b4, i4⟩ := open_bi g4 (hwe 4 42 y4.1 rfl rfl)
    obtain ⟨p5, m5, c5, z5, rfl, a5, b5, e5, i5⟩ := open_ii g5 (hwe 5 23 y5.1 rfl rfl)
    refine ⟨⟨x0, x1, x2, x3, z4, z5⟩, p4, m4, c4, p5, m5, c5, ⟨?_, ?_, ?_, ?_, ?_, ?_, i4, ⟨a4, b4⟩, i5, by omega⟩⟩
    · exact hc 0 (by omega)
    · exact hc 1 (by omega)
    · exact hc 2 (by omega)
    · exact hc 3 (by omega)
    · exact hc 4 (by omega)
    · exact hc 5 (by omega)

theorem choose_list {α : Type} {P : Nat → α → Prop} : ∀ (n : Nat), (∀ i, i < n → ∃ x, P i x) → ∃ l : List α, l.length = n ∧ ∀ i x, l[i]? = some x → P i x
  | 0, _ => ⟨[], rfl, by simp⟩
  | n + 1, h => by
    obtain ⟨l, hl, hp⟩ := choose_list n (fun i hi => h i (by omega))
    obtain ⟨x, hx⟩ := h n (by omega)
    refine ⟨l ++ [x], by simp [hl], fun i y hy => ?_⟩
    by_cases hi : i < n
    · rw [List.getElem?_append_left (by omega)] at hy; exact hp i y hy
    · rw [List.getElem?_append_right (by omega)] at hy
      have hi0 : i - l.length = 0 := by have := (List.getElem?_eq_some_iff.1 hy).1; simpa using this
      rw [hi0] at hy
      simp at hy
      subst hy
      obtain rfl : i = n := by omega
      exact hx

set_option maxRecDepth 10000 in
/-- The calls that were handed in. -/
theorem open_dos {a0 : Option Addr} {len0 cap0 : Nat} {d0 : DataW H} {p0 : List MemPlace} {ts : List TypeId} {ds : List (DataW H)} {j : Nat}
    (h0 : DataW.Trod enc Tryz.prog W 0 (fun _ => true) true 22 (.slice a0 len0 cap0) d0 p0)
    (hsz : (DataW.weightsEach Tryz.prog ts ds).all (· ≤ reachBytes) = true) (ht : ts[j]? = some 22) (hd : ds[j]? = some d0) : ∃ D, DosI W a0 len0 D := by
  obtain ⟨fuel, hf⟩ := h0
  have hall : ∀ x ∈ d0.weights Tryz.prog 22, x ≤ reachBytes := fun x hx => by
    have := List.all_eq_true.1 hsz x (DataW.weights_mem_each ht hd x hx)
    simpa using this
  rcases Go.Deep.open_slice Tryz.underlying22 hf with ⟨hcs, _⟩ | ⟨x, l, c, m, nn, E, Pl, hcs, _, hl, hm, hmm, hx, hcell⟩
  · simp [Value.cells] at hcs
    obtain ⟨rfl, rfl, rfl⟩ := hcs
    exact ⟨[], rfl, by omega, fun h => by omega⟩
  · simp [Value.cells] at hcs
    obtain ⟨rfl, rfl, rfl⟩ := hcs
    simp only [if_true] at hmm
    subst hmm
    simp only [Prod.mk.injEq] at hx
    obtain ⟨rfl, _⟩ := hx
    have hw := sized_slice hsz (j := j) (t := 22) (e := 44) ht hd Tryz.underlying22
    rw [bytes44] at hw
    simp only [List.length_map, List.length_range, reachBytes] at hw
    rcases Nat.eq_zero_or_pos len0 with h0 | hpos
    · subst h0
      exact ⟨[], rfl, by omega, fun h => by omega⟩
    obtain ⟨b, off, spot⟩ := x
    have hspot : spot = none := by
      obtain ⟨cs', h1, _⟩ := hcell 0 (by omega)
      rw [cells44] at h1
      obtain ⟨_, hlen, hce⟩ := World.cells?_some h1
      have := hce 0 (by omega)
      have h5 : cs'[0]? = some (cs'[0]'(by omega)) := List.getElem?_eq_getElem (by omega)
      rw [h5] at this
      simpa [Addr.add] using World.cell?_spot this
    subst hspot
    obtain ⟨D, hDl, hD⟩ := choose_list (P := fun i x => ∃ bp bn bc ip im ic, DkAt W b (off + i * 6) x bp bn bc ip im ic) len0 (fun i hi => by
      obtain ⟨cs', h1, h2⟩ := hcell i (by omega)
      rw [cells44] at h1
      obtain ⟨_, hlen, hce⟩ := World.cells?_some h1
      refine open_do (cs := cs') (fun k hk => ?_) h2 (fun y hy => hall y ?_)
      · have := hce k (by omega)
        rw [Addr.add_mid, Addr.add_mid] at this
        exact this
      · simp only [DataW.weights, Tryz.underlying22, List.mem_cons, List.mem_append]
        exact .inr (.inl (weightsAll_mem hy (List.mem_map.2 ⟨i, List.mem_range.2 hi, rfl⟩))))
    exact ⟨D, hDl, by omega, fun _ => ⟨b, off, rfl, hD⟩⟩

theorem open_nums {a0 : Option Addr} {len0 cap0 : Nat} {d0 : DataW H} {p0 : List MemPlace} {ts : List TypeId} {ds : List (DataW H)} {j : Nat}
    (h0 : DataW.Trod enc Tryz.prog W 0 (fun _ => true) true 23 (.slice a0 len0 cap0) d0 p0)
    (hsz : (DataW.weightsEach Tryz.prog ts ds).all (· ≤ reachBytes) = true) (ht : ts[j]? = some 23) (hd : ds[j]? = some d0) : ∃ xs, Pt.II W a0 len0 xs := by
  obtain ⟨fuel, hf⟩ := h0
  have hall : ∀ x ∈ d0.weights Tryz.prog 23, x ≤ reachBytes := fun x hx => by
    have := List.all_eq_true.1 hsz x (DataW.weights_mem_each ht hd x hx)
    simpa using this
  obtain ⟨p, m, c, xs, e, _, _, _, h⟩ := open_ii (v := .slice a0 len0 cap0) (by simpa [Value.cells] using hf) hall
  obtain ⟨rfl, rfl, rfl⟩ := Value.slice.inj e
  exact ⟨xs, h⟩
end
end Go.Proofs.YtinigfidofgaiaaGreat

/- A write and its end: what is read stays. -/
namespace Go.Proofs.YtinigfidofgaiaaGreat
open Go.RowKit Go.Maps
set_option linter.unusedVariables false
set_option maxRecDepth 100000

section
variable {g : Int} {B : Nat} {w w' : World} {A : At} {T T1 T2 : Vs} {b : Nat}
theorem chs_len (h : VI g B w A T) (b : Nat) (hg : Good T) : (chs T.P (b : Int)).length ≤ 1000 := by
  have hn : (chs T.P (b : Int)).Nodup := Pt.pst_nodup T.P _ _ (by simp) (hg.gd.srt.sublist List.filter_sublist) (by simp)
  have hs : ∀ x ∈ chs T.P (b : Int), x ∈ (T.P.map fun p => (p.id : Int)) := fun x hx => by
    obtain ⟨p, hp, _, e⟩ := chs_mem hx
    exact List.mem_map.2 ⟨p, hp, e.symm⟩
  have h1 : (chs T.P (b : Int)).length ≤ (T.P.map fun p => (p.id : Int)).length := List.Nodup.length_le_of_subset hn hs
  rw [List.length_map] at h1
  have h2 := h.ps.sml
  have h3 : T.P.length ≤ T.last := h.ps.len
  omega

theorem wrote_all (hw : Wrote T T1 b) : allOf T1 = allOf T := by
  unfold allOf nowOf
  rw [hw.S, hw.P]
  rfl

theorem wrote_q (hg : Good T) (hw : Wrote T T1 b) : T1.S.q = [⟨T.S.last + 1, b, outOf T b⟩] := by
  rw [hw.S]
  show T.S.q ++ _ = _
  rw [hg.q]
  rfl

theorem wrote_s (h : VI g B w A T) (hg : Good T) (hw : Wrote T T1 b) : ∃ s : Sn, s.zs = chs T.P (b : Int) ∧ T1.Y (b : Int) = some s ∧ s.id = T.S.last + 1 ∧ s.zs.all (Pt.kn T1.last) = true ∧ (Pt.still T1.P s.zs).any (Pt.bad T1.P s.zs) = false ∧ s.zs.length ≤ 1000 ∧ T1.Y = Pt.fput T.Y (b : Int) (some s) := by
  obtain ⟨s, e1, e2, e3⟩ := hw.Y
  refine ⟨s, e2, by rw [e3]; unfold Pt.fput; simp, e1, ?_, ?_, by rw [e2]; exact chs_len h b hg, e3⟩
  · rw [List.all_eq_true, e2, hw.last]
    intro x hx
    obtain ⟨p, hp, _, rfl⟩ := chs_mem hx
    have := h.ps.ids p hp
    exact Pt.kn_true.2 (by omega)
  · rw [e2, hw.P]
    exact Pt.bad_none hg.gd (hg.gd.planned (b : Int) []).1

theorem ended_all (h : VI g B w A T) (hg : Good T) (hw : Wrote T T1 b) (hm : may T (b : Int) = true) {T1' : Vs} (e1 : T1'.S = T1.S) (e2 : T1'.P = T1.P) (e3 : T1'.Y = T1.Y) (e4 : T1'.x = T1.x) (e5 : T1'.NW = T1.NW) {s : Sn} (hs : s.zs = chs T.P (b : Int)) (hY : T1.Y = Pt.fput T.Y (b : Int) (some s)) {ok : Bool} (he : Ended T1' T2 0 ⟨T.S.last + 1, b, outOf T b⟩ s ok) :
    Good T2 ∧ allOf T2 = allOf T ∧ T2.P.length ≤ T.P.length ∧ (ok = true → T2.P.length < T.P.length) ∧ T2.S.last = T.S.last + 1 ∧ T2.NW ≤ T.NW + 1 ∧ T2.S.N = T.S.N := by
  have eS : T2.S = (T.S.put b (outOf T b)).done 0 ⟨T.S.last + 1, b, outOf T b⟩ ok := by rw [he.S, e1, hw.S]
  have eP : T2.P = if ok then Pt.kpP T.P (chs T.P (b : Int)) else T.P := by rw [he.P, e2, hw.P, hs]
  have hbad : (Pt.still T.P (chs T.P (b : Int))).any (Pt.bad T.P (chs T.P (b : Int))) = false := Pt.bad_none hg.gd (hg.gd.planned (b : Int) []).1
  have eYY : T2.Y = fun _ => none := by
    rw [he.Y, e3, hY, hg.Y]
    funext k
    unfold Pt.fput
    by_cases hk : k = (b : Int) <;> simp [hk]
  have hq : T2.S.q = [] := by
    rw [eS]
    show (T.S.q ++ [_]).eraseIdx 0 = []
    rw [hg.q]
    rfl
  refine ⟨⟨?_, hq, eYY, by rw [he.vx, e4, hw.x]; exact hg.x, ?_⟩, ?_, ?_, ?_, by rw [eS]; rfl, by rw [he.N, e5]; exact hw.N, by rw [eS]; rfl⟩
  · rw [eP]
    cases ok
    · exact hg.gd
    · exact hg.gd.kp hbad
  · intro p hp
    have hN : T2.S.N = T.S.N := by rw [eS]; rfl
    rw [hN]
    rw [eP] at hp
    cases ok
    · exact hg.blk p hp
    · exact hg.blk p (Pt.mem_kpP.1 hp).1
  · unfold allOf
    have hN : T2.S.N = T.S.N := by rw [eS]; rfl
    rw [hN]
    refine List.map_congr_left fun b' _ => ?_
    unfold nowOf
    rw [eS, eP]
    cases ok
    · rfl
    · exact now_same hg.gd (fun p hp => (h.ps.ids p hp).2.2.2.2) T.S.f (fun b => (h.sy.ok.sec b).1) b b'
  · rw [eP]
    cases ok
    · exact Nat.le_refl _
    · exact List.length_filter_le _ _
  · rintro rfl
    rw [eP]
    unfold may at hm
    have hc : chs T.P (b : Int) ≠ [] := by
      intro e
      rw [e] at hm
      simp at hm
    obtain ⟨x, hx⟩ := List.exists_mem_of_ne_nil _ hc
    obtain ⟨p, hp, _, rfl⟩ := chs_mem hx
    show (T.P.filter _).length < _
    rw [List.length_filter_lt_length_iff_exists]
    exact ⟨p, hp, by simp [hx]⟩
end
end Go.Proofs.YtinigfidofgaiaaGreat

/- What a volume reads as stays, whatever is written (P9.7, P9.9). -/
namespace Go.Proofs.YtinigfidofgaiaaGreat
open Go.RowKit Go.Maps
set_option linter.unusedVariables false
set_option maxRecDepth 100000

/-- The rest of memory: what was handed in, and the image wanted, beside the volume. -/
structure Env (w : World) (Bv : Nat) (v : Value) (gs : List (Nat × Nat)) (L : List (List Int)) (A : At) (T : Vs) (wr : World) : Prop where
  im : Im Bv wr v gs L
  io : ∀ k, ifoot v gs k → ¬ fp A T k
  bel : Below w.heap.size w wr
  own : ∀ k, fp A T k → w.heap.size ≤ k
section
variable {w wr w' : World} {Bv : Nat} {v : Value} {gs : List (Nat × Nat)} {L : List (List Int)} {A : At} {T T' : Vs}
theorem Env.stp (h : Env w Bv v gs L A T wr) (hs : Pt.Stp (fp A T) (fp A T') wr w') : Env w Bv v gs L A T' w' := by
  refine ⟨h.im.stp hs h.io, h.im.out hs h.io, ?_, ?_⟩
  · refine ⟨hs.fr.os.trans h.bel.os, hs.fr.tape.trans h.bel.tape, hs.fr.output.trans h.bel.output, Nat.le_trans h.bel.size hs.fr.size, fun i hi => ?_⟩
    exact (hs.fr.block i (Nat.lt_of_lt_of_le hi h.bel.size) (fun hf => by have := h.own i hf; omega)).trans (h.bel.block i hi)
  · intro k hk
    rcases hs.new k hk with h1 | h1
    · exact h.own k h1
    · have := h.bel.size; omega
end
/-- Behind i rounds. -/
structure Rnd (L : List (List Int)) (T : Vs) (i : Nat) : Prop where
  good : Good T
  all : allOf T = L
  cnt : T.P.length ≤ 41 ∧ T.P.length + i ≤ 71
  Sl : T.S.last = (i : Int)
  NW : T.NW ≤ i
  C : T.C.hi + T.C.mi ≤ 12 + 25 * i

theorem ovrs_sect : ∀ (l : List Pt.Pv) (xs : List Int), (∀ p ∈ l, Pt.Num.Byt p.bs ∧ p.off + p.bs.length ≤ 128) → Sect xs → Sect (Pt.ovrs l xs)
  | [], _, _, h => h
  | p :: l, xs, hP, h => by
    have hp := hP p (by simp)
    exact ovrs_sect l _ (fun q hq => hP q (by simp [hq])) ⟨by rw [Pt.ovr_len (by rw [h.1]; exact hp.2)]; exact h.1, Pt.ovr_byt h.2 hp.1⟩
theorem all_sect {g : Int} {B : Nat} {w : World} {A : At} {T : Vs} (h : VI g B w A T) : (∀ xs ∈ allOf T, Sect xs) ∧ (allOf T).length ≤ 100 := by
  refine ⟨fun xs hx => ?_, ?_⟩
  · obtain ⟨b, _, rfl⟩ := List.mem_map.1 hx
    exact ovrs_sect _ _ (fun p hp => ⟨(h.ps.byt p (List.mem_filter.1 hp).1).1.byt, (h.ps.ids p (List.mem_filter.1 hp).1).2.2.2.2⟩) (h.sy.ok.sec b)
  · have := h.cd.ci.N12
    unfold allOf
    simp
    omega
theorem rdy_in {T : Vs} {x : Int} (hx : x ∈ rdy T (Pt.blks T.P)) (hg : Good T) : ∃ b : Nat, x = (b : Int) ∧ b < T.S.N ∧ may T (b : Int) = true := by
  obtain ⟨h1, h2⟩ := List.mem_filter.1 hx
  obtain ⟨p, hp, rfl⟩ := List.mem_map.1 ((Pt.mem_rs _ _).1 h1)
  exact ⟨p.blk, rfl, hg.blk p hp, h2⟩
theorem rdy_len (T : Vs) : (rdy T (Pt.blks T.P)).length ≤ T.P.length := by
  have h1 : (rdy T (Pt.blks T.P)).length ≤ (Pt.blks T.P).length := List.length_filter_le _ _
  have h2 : (Pt.blks T.P).length ≤ (T.P.map (fun p => (p.blk : Int))).length := Pt.rs_length _
  rw [List.length_map] at h2
  omega
theorem blks_pos {P : List Pt.Pv} (h : P ≠ []) : 0 < (Pt.blks P).length := by
  cases P with
  | nil => exact absurd rfl h
  | cons p r => exact List.length_pos_of_mem ((Pt.mem_rs _ _).2 (List.mem_map.2 ⟨p, by simp, rfl⟩))

set_option maxHeartbeats 4000000 in
theorem volumeNow_walk (n : Int) (p : Option Addr) (m c : Nat) (D : List Dk) (q : Option Addr) (mo co : Nat) (zs : List Int) (w : World) (hD : DosI w p m D) (hZ : Pt.II w q mo zs) : Calls Tryz.prog 3 #[.int .i64 n, .slice p m c, .slice q mo co] w fun e w' => e = .returned (.bool true) ∧ Below w.heap.size w w' := by
  have hbg := begun_ok n p m c D w hD
  go_enter Tryz.func3, Tryz.ntmps3
  go_wp2_with fail
  refine Calls.mono hbg ?_
  rintro e w1 ⟨A, T, rfl, B, j, hj, hB⟩
  have hall := all_ok hB.vi (by rw [hB.C]; decide)
  clear hbg
  dsimp only
  go_wp2_with fail
  refine Calls.mono hall ?_
  rintro e w2 ⟨v, gs, C', rfl, hIm, hio, hv2, hst2, hC2⟩
  have hE2 : Env w w1.heap.size v gs (allOf T) A { T with C := C' } w2 := by
    refine ⟨hIm, hio, ?_, ?_⟩
    · refine ⟨hst2.fr.os.trans hB.bel.os, hst2.fr.tape.trans hB.bel.tape, hst2.fr.output.trans hB.bel.output, Nat.le_trans hB.bel.size hst2.fr.size, fun i hi => ?_⟩
      exact (hst2.fr.block i (Nat.lt_of_lt_of_le hi hB.bel.size) (fun hf => by have := hB.own i hf; omega)).trans (hB.bel.block i hi)
    · intro k hk
      rcases hst2.new k hk with h1 | h1
      · exact hB.own k h1
      · have := hB.bel.size; omega
  have hR2 : Rnd (allOf T) { T with C := C' } 0 := by
    have hg := hB.good
    refine ⟨⟨hg.gd, hg.q, hg.Y, hg.x, hg.blk⟩, rfl, ?_, hB.Sl, by show T.NW ≤ 0; rw [hB.N]; exact Nat.le_refl _, ?_⟩
    · show T.P.length ≤ 41 ∧ T.P.length + 0 ≤ 71
      rw [hB.len]; omega
    · show C'.hi + C'.mi ≤ _
      rw [hB.C] at hC2
      exact hC2
  obtain ⟨hS, hLl⟩ := all_sect hB.vi
  generalize allOf T = L at hE2 hR2 hS hLl
  clear hall hIm hio hst2 hC2 hB
  generalize w1.heap.size = Bv at hE2
  generalize ({ T with C := C' } : Vs) = T0 at hE2 hR2 hv2
  clear C' T hj j
  dsimp only
  go_wp2_with fail
  go_loopw [11] (fun iv wr => ∃ (i : Nat) (T : Vs), iv = .int .i64 (i : Int) ∧ VI 0 B wr A T ∧ Env w Bv v gs L A T wr ∧ Rnd L T i) (fun iv _ => 200 - (intOf iv).toNat)
  case atStart => exact ⟨0, T0, rfl, hv2, hE2, hR2⟩
  case round =>
    clear hv2 hE2 hR2
    obtain ⟨i, T, rfl, hv, hE, hR⟩ := hrel
    have hd := vDirty_ok hv
    obtain ⟨nb, hnb⟩ : ∃ nb, nb = (Pt.blks T.P).length := ⟨_, rfl⟩
    rw [← hnb] at hd
    have HNB := (show Hid _ from hnb)
    clear hnb
    go_wp2_with fail
    refine Calls.mono hd ?_
    rintro e w3 ⟨p3, c3, rfl, hv3, hst3⟩
    have hE3 := hE.stp hst3
    clear hd hE hst3 hv
    by_cases hP : T.P = []
    · have h0 : nb = 0 := by rw [HNB.out, hP]; unfold Pt.blks; rw [List.map_nil, Pt.rs_nil]; rfl
      subst h0
      dsimp only
      go_wp2_with fail
      go_ret
      exact ⟨rfl, hE3.bel⟩
    · have hnb : (0 : Int) < (nb : Int) := by have := blks_pos hP; rw [← HNB.out] at this; omega
      have hrd := vReady_ok hv3
      have hne := rdy_some hR.good.gd hP hR.good.q
      have hi70 : (i : Int) ≤ 70 := by have := hR.cnt; have : 0 < T.P.length := List.length_pos_iff.2 hP; omega
      have hi100 : ¬ (100 : Int) < (i : Int) := by omega
      clear HNB
      dsimp only
      go_wp2_with fail
      refine Calls.mono hrd ?_
      rintro e w4 ⟨v4, rfl, hN4, hno4, hv4, hst4⟩
      have hE4 := hE3.stp hst4
      obtain ⟨RL, hRL⟩ : ∃ RL, RL = rdy T (Pt.blks T.P) := ⟨_, rfl⟩
      have hin : ∀ x ∈ RL, ∃ b : Nat, x = (b : Int) ∧ b < T.S.N ∧ may T (b : Int) = true := fun x hx => rdy_in (by rw [← hRL]; exact hx) hR.good
      have hlen : RL.length ≤ 41 := by rw [hRL]; exact Nat.le_trans (rdy_len T) hR.cnt.1
      rw [← hRL] at hN4 hne
      have hN12 := hv4.cd.ci.N12
      obtain ⟨p4, c4, rfl, hII4, hPl⟩ := hN4.ii (by omega) (fun x hx => by obtain ⟨b, rfl, hb, _⟩ := hin x hx; exact ⟨by omega, by omega⟩)
      have hpos : 0 < RL.length := List.length_pos_iff.2 hne
      have hZ4 := hZ.kept hE4.bel
      obtain ⟨K, hK⟩ : ∃ K, K = RL.length := ⟨_, rfl⟩
      rw [← hK] at hII4 hpos hlen
      have hK0 : ((K : Int) == 0) = false := beq_eq_false_iff_ne.2 (by omega)
      have HK := (show Hid _ from hK)
      have hZl := hZ4.big
      clear hrd hE3 hst4 hv3 hN4 hno4 hRL hne hnb hK
      try rw [← HK.out]
      dsimp only
      go_upto_if 44 with fail
      go_cut [13] (fun kv wx => ∃ k : Nat, kv = .int .i64 (k : Int) ∧ k < K ∧ wx = w4)
      case first =>
        by_cases hio : i < mo
        · have hioI : (i : Int) < (mo : Int) := by omega
          have hi0 : (0 : Int) ≤ (i : Int) := by omega
          obtain ⟨b5, o5, rfl, hc5⟩ := hZ4.cells (by omega)
          have e5 := hc5 i hio
          generalize zs.getD i 0 = y at e5
          have hKI : ¬ (K : Int) = 0 := by omega
          have hmq := Pt.mq_lt (K := K) (by omega) y
          have hmw := mq_wrapI (K := K) (by omega) (by omega) y
          have HMQ := (show Hid _ from hmq)
          clear hmq hc5
          go_wp2_with fail
          go_meet
          case rel => exact ⟨_, rfl, HMQ.out, rfl⟩
        · have hioI : ¬ (i : Int) < (mo : Int) := by omega
          go_wp2_with fail
          go_meet
          case rel => exact ⟨0, rfl, by omega, rfl⟩
      case rest =>
        obtain ⟨k, rfl, hk, rfl⟩ := hcut
        obtain ⟨b6, o6, rfl, hc6⟩ := hII4.cells hpos
        have e6 := hc6 k hk
        have hkl : k < RL.length := by rw [← HK.out]; exact hk
        obtain ⟨b, hb, hbN, hmay⟩ := hin (RL.getD k 0) (by rw [List.getD_eq_getElem?_getD, List.getElem?_eq_getElem hkl]; exact List.getElem_mem _)
        rw [hb] at e6
        have hk0 : (0 : Int) ≤ (k : Int) := by omega
        have hkK : (k : Int) < (K : Int) := by omega
        have hwr := vWrite_ok hv4 b hbN hmay (by have := hR.C; omega) (by rw [hR.good.q]; decide) (by rw [hR.Sl]; omega) (by have := hR.NW; omega)
        have HV : Hid (VI 0 B _ A T) := hv4
        have HR := (show Hid _ from hR)
        clear hc6 hin hII4 hb hkl hZ4 hPl hv4 hR
        go_wp2_with fail
        refine Calls.mono hwr ?_
        rintro e w5 ⟨rfl, T1, hv5, hst5, hW⟩
        have hE5 := hE4.stp hst5
        have hal := all_ok hv5 (by have := hW.C; have := HR.out.C; omega)
        rw [wrote_all hW, HR.out.all] at hal
        clear hwr hst5
        dsimp only
        go_wp2_with fail
        refine Calls.mono hal ?_
        rintro e w6 ⟨v6, gs6, C6, rfl, hIm6, hio6, hv6, hst6, hC6⟩
        have hE6 := hE5.stp hst6
        have hsa := vsame_ok hIm6 hE6.im hS hLl
        have hwy := vWay_ok hv6
        have hq1 : ({ T1 with C := C6 } : Vs).S.q.length = 1 := by
          show T1.S.q.length = 1
          rw [wrote_q HR.out.good hW]
          rfl
        rw [hq1] at hwy
        obtain ⟨s, s1, s2, s3, s4, s5, s6, s7⟩ := wrote_s HV.out HR.out.good hW
        have HS : Hid _ := (show Hid (s.zs = chs T.P (b : Int) ∧ T1.Y (b : Int) = some s ∧ s.id = T.S.last + 1 ∧ s.zs.all (Pt.kn T1.last) = true ∧ (Pt.still T1.P s.zs).any (Pt.bad T1.P s.zs) = false ∧ s.zs.length ≤ 1000 ∧ T1.Y = Pt.fput T.Y (b : Int) (some s)) from ⟨s1, s2, s3, s4, s5, s6, s7⟩)
        have HC6 := (show Hid _ from hC6)
        clear hal hst6 hq1 s1 s2 s3 s4 s5 s6 s7 hIm6 hio6 hv5 hC6 hE5
        dsimp only
        go_wp2_with (first | (go_at_call 13; refine same_at hsa ?_))
        refine Calls.mono hwy ?_
        rintro e w7 ⟨p7, c7, rfl, hv7, hst7⟩
        have hE7 := hE6.stp hst7
        have hZ7 := hZ.kept hE7.bel
        clear hwy hst7 hv6 hE6 hsa
        dsimp only
        go_upto_region 16 with fail
        go_cut [14] (fun f wx => ∃ fl : Bool, f = .bool fl ∧ (fl = true → i < 30) ∧ wx = w7)
        case first =>
          by_cases hio : i < mo
          · have hioI : (i : Int) < (mo : Int) := by omega
            have hi0 : (0 : Int) ≤ (i : Int) := by omega
            obtain ⟨b5, o5, rfl, hc5⟩ := hZ7.cells (by omega)
            have e5 := hc5 i hio
            generalize zs.getD i 0 = y at e5
            clear hc5
            by_cases h30 : (i : Int) < 30
            · go_wp2_with fail
              all_goals go_meet
              all_goals exact ⟨_, rfl, fun _ => by omega, rfl⟩
            · go_wp2_with fail
              all_goals go_meet
              all_goals exact ⟨false, rfl, fun h => (by cases h), rfl⟩
          · have hioI : ¬ (i : Int) < (mo : Int) := by omega
            go_wp2_with fail
            go_meet
            case rel => exact ⟨false, rfl, fun h => (by cases h), rfl⟩
        case rest =>
          obtain ⟨fl, rfl, hfl, rfl⟩ := hcut
          cases fl
          · have hcp := vComplete_ok hv7 0 ⟨T.S.last + 1, b, outOf T b⟩ s true (by show T1.S.q[0]? = _; rw [wrote_q HR.out.good hW]; rfl) (by show T1.S.q.findIdx? _ = _; rw [wrote_q HR.out.good hW]; simp) HS.out.2.1 HS.out.2.2.1 HS.out.2.2.2.1 HS.out.2.2.2.2.1 HS.out.2.2.2.2.2.1
            have HF := (show Hid _ from hfl)
            clear hfl hZ7
            go_wp2_with fail
            refine Calls.mono hcp ?_
            rintro e w8 ⟨rfl, T2, hv8, hst8, hEnd⟩
            obtain ⟨g1, g2, g3, g4, g5, g6, g7⟩ := ended_all HV.out HR.out.good hW hmay (T1' := { T1 with C := C6 }) rfl rfl rfl rfl rfl HS.out.1 HS.out.2.2.2.2.2.2 hEnd
            have hC8 : T2.C.hi + T2.C.mi ≤ T.C.hi + T.C.mi + 13 := by
              have e1 := hEnd.C
              have e2 : T2.C.hi + T2.C.mi = C6.hi + C6.mi := e1
              have e3 := HC6.out
              have e4 := hW.C
              omega
            have hE8 := hE7.stp hst8
            have hal8 := all_ok hv8 (by have := HR.out.C; omega)
            rw [g2, HR.out.all] at hal8
            clear hcp hst8 hv7 hE7
            dsimp only
            go_wp2_with fail
            refine Calls.mono hal8 ?_
            rintro e w9 ⟨v9, gs9, C9, rfl, hIm9, hio9, hv9, hst9, hC9⟩
            have hE9 := hE8.stp hst9
            have hsa9 := vsame_ok hIm9 hE9.im hS hLl
            have HX : Hid (Rnd L { T2 with C := C9 } (i + 1)) := by
              have hr := HR.out
              refine ⟨⟨g1.gd, g1.q, g1.Y, g1.x, g1.blk⟩, (show allOf T2 = L from g2.trans hr.all), ?_, ?_, ?_, ?_⟩
              · show T2.P.length ≤ 41 ∧ T2.P.length + (i + 1) ≤ 71
                have := hr.cnt
                have := g4 (by trivial)
                omega
              · show T2.S.last = ((i + 1 : Nat) : Int)
                rw [g5, hr.Sl]
                omega
              · show T2.NW ≤ i + 1
                have := hr.NW
                omega
              · show C9.hi + C9.mi ≤ 12 + 25 * (i + 1)
                have := hr.C
                omega
            clear hal8 hst9 hIm9 hio9 hv8 hE8 hC9 hC8 g1 g2 g3 g4 g5 g6 g7 hEnd
            dsimp only
            go_wp2_with (first | (go_at_call 13; refine same_at hsa9 ?_))
            go_roundw
            case rel => exact ⟨i + 1, _, by go_num, hv9, hE9, HX.out⟩
            case measure => simp [intOf]; omega
          · have hcp := vComplete_ok hv7 0 ⟨T.S.last + 1, b, outOf T b⟩ s false (by show T1.S.q[0]? = _; rw [wrote_q HR.out.good hW]; rfl) (by show T1.S.q.findIdx? _ = _; rw [wrote_q HR.out.good hW]; simp) HS.out.2.1 HS.out.2.2.1 HS.out.2.2.2.1 HS.out.2.2.2.2.1 HS.out.2.2.2.2.2.1
            have HF := (show Hid _ from hfl)
            clear hfl hZ7
            go_wp2_with fail
            refine Calls.mono hcp ?_
            rintro e w8 ⟨rfl, T2, hv8, hst8, hEnd⟩
            obtain ⟨g1, g2, g3, g4, g5, g6, g7⟩ := ended_all HV.out HR.out.good hW hmay (T1' := { T1 with C := C6 }) rfl rfl rfl rfl rfl HS.out.1 HS.out.2.2.2.2.2.2 hEnd
            have hC8 : T2.C.hi + T2.C.mi ≤ T.C.hi + T.C.mi + 13 := by
              have e1 := hEnd.C
              have e2 : T2.C.hi + T2.C.mi = C6.hi + C6.mi := e1
              have e3 := HC6.out
              have e4 := hW.C
              omega
            have hE8 := hE7.stp hst8
            have hal8 := all_ok hv8 (by have := HR.out.C; omega)
            rw [g2, HR.out.all] at hal8
            clear hcp hst8 hv7 hE7
            dsimp only
            go_wp2_with fail
            refine Calls.mono hal8 ?_
            rintro e w9 ⟨v9, gs9, C9, rfl, hIm9, hio9, hv9, hst9, hC9⟩
            have hE9 := hE8.stp hst9
            have hsa9 := vsame_ok hIm9 hE9.im hS hLl
            have HX : Hid (Rnd L { T2 with C := C9 } (i + 1)) := by
              have hr := HR.out
              refine ⟨⟨g1.gd, g1.q, g1.Y, g1.x, g1.blk⟩, (show allOf T2 = L from g2.trans hr.all), ?_, ?_, ?_, ?_⟩
              · show T2.P.length ≤ 41 ∧ T2.P.length + (i + 1) ≤ 71
                have := hr.cnt
                have := HF.out (by trivial)
                omega
              · show T2.S.last = ((i + 1 : Nat) : Int)
                rw [g5, hr.Sl]
                omega
              · show T2.NW ≤ i + 1
                have := hr.NW
                omega
              · show C9.hi + C9.mi ≤ 12 + 25 * (i + 1)
                have := hr.C
                omega
            clear hal8 hst9 hIm9 hio9 hv8 hE8 hC9 hC8 g1 g2 g3 g4 g5 g6 g7 hEnd
            dsimp only
            go_wp2_with (first | (go_at_call 13; refine same_at hsa9 ?_))
            go_roundw
            case rel => exact ⟨i + 1, _, by go_num, hv9, hE9, HX.out⟩
            case measure => simp [intOf]; omega
end Go.Proofs.YtinigfidofgaiaaGreat
