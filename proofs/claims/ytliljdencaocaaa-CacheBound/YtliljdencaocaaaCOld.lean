/- CacheOldest: the statement's own call returns true. -/
import Derived.Test.YtliljdencaocaaaWin
namespace Go.Proofs.Ytliljdencaocaaa
open Go.RowKit Go.Maps
set_option linter.unusedVariables false

theorem aWrite_fl (S : St) (b : Int) (n : Nat) (xs : List Int) : (aWrite S b n xs).2.2.fl = S.fl := by
  unfold aWrite
  split
  · rfl
  · split
    · rfl
    · split <;> rfl
theorem aDone_fl (S : St) (id : Int) (ok : Bool) : (aDone S id ok).2.fl = S.fl := by
  unfold aDone
  split
  · rfl
  · split
    · rfl
    · rfl
theorem Sb_fl (K b : Nat) : (Sb K b).fl = fun _ => 0 := by
  induction b with
  | zero => rfl
  | succ b ih =>
    show (aDone _ _ _).2.fl = _
    rw [aDone_fl, aWrite_fl, ih]

/-- What the document says: what is got goes behind all others; if there are too many, the first goes. -/
def nxt (bd : Nat) (zs : List Int) (b : Int) : List Int := if bd < (zs.filter (fun z => !(z == b)) ++ [b]).length then (zs.filter (fun z => !(z == b)) ++ [b]).tail else zs.filter (fun z => !(z == b)) ++ [b]

theorem blks_outb (L : List Bf) (b : Nat) : blks (outb L b) = (blks L).filter (fun z => !(z == (b : Int))) := by
  unfold blks outb
  rw [List.filter_map]
  congr 1
  apply List.filter_congr
  intro f _
  show (!(f.b == b)) = (!((f.b : Int) == (b : Int)))
  congr 1
  rw [Bool.eq_iff_iff]
  simp
  omega
theorem blks_append (L M : List Bf) : blks (L ++ M) = blks L ++ blks M := by simp [blks]
theorem blks_len (L : List Bf) : (blks L).length = L.length := by simp [blks]
theorem mem_blks {L : List Bf} {b : Nat} : (b : Int) ∈ blks L ↔ ∃ f ∈ L, f.b = b := by
  unfold blks
  rw [List.mem_map]
  constructor
  · rintro ⟨f, hf, e⟩; exact ⟨f, hf, by omega⟩
  · rintro ⟨f, hf, e⟩; exact ⟨f, hf, by omega⟩

theorem room_all {C : Ch} (hp : ∀ f ∈ C.L, f.p = 0) (hn : (C.L.map (·.b)).Nodup) (hbd : 1 ≤ C.bd) : room C = if C.bd ≤ C.L.length then C.L.tail else C.L := by
  unfold room
  split
  · cases hL : C.L with
    | nil => rename_i h; rw [hL] at h; simp at h; omega
    | cons f L =>
      have h0 := hp f (by rw [hL]; simp)
      rw [hL] at hn
      simp only [vic, List.find?_cons, h0, beq_self_eq_true]
      rw [List.map_cons, List.nodup_cons] at hn
      show outb (f :: L) f.b = L
      unfold outb
      rw [List.filter_cons]
      simp only [beq_self_eq_true, Bool.not_true, Bool.false_eq_true, if_false]
      rw [List.filter_eq_self]
      intro k hk
      have : ¬ k.b = f.b := fun e => hn.1 (List.mem_map.2 ⟨k, hk, e⟩)
      simpa using this
  · rfl
theorem canGo_all {C : Ch} (hp : ∀ f ∈ C.L, f.p = 0) (hbd : 1 ≤ C.bd) : canGo C := by
  intro h
  cases hL : C.L with
  | nil => rw [hL] at h; simp at h; omega
  | cons f L =>
    refine ⟨f, ?_⟩
    simp [vic, hp f (by rw [hL]; simp)]

section
variable {B : Nat} {w w' : World} {c mb d dm df : Nat} {dq : Value} {C : Ch} {S : St}
theorem get_any (h : CD B w c mb d dm df dq C S) (hp : ∀ f ∈ C.L, f.p = 0) (h0 : S.fl = fun _ => 0) (b : Nat) (hb : b < S.N) (hc : C.hi + C.mi < 4611686018427387904) :
    Calls Try.prog 15 #[.pointer (some ⟨c, 0, none⟩), .int .i64 (b : Int)] w fun e w' => ∃ g cap C', e = .returned (.tuple #[.slice (some ⟨g, 0, none⟩) 128 cap, .int .i64 0]) ∧ CD B w' c mb d dm df dq C' S ∧
      C'.bd = C.bd ∧ C'.hi + C'.mi = C.hi + C.mi + 1 ∧ (∀ f ∈ C'.L, f.p = 0) ∧ blks C'.L = nxt C.bd (blks C.L) (b : Int) ∧ Frame (cfoot c mb C) w w' := by
  have hlen := h.ci.len
  have hbd := h.ci.bd.1
  have hnd := h.ci.toCW.bnd
  by_cases hm : ∃ f ∈ C.L, f.b = b
  · obtain ⟨f, hf, rfl⟩ := hm
    refine (get_hit h hf hc).mono ?_
    rintro e w1 ⟨g, cap, rfl, _, hcd, hfr⟩
    refine ⟨g, cap, _, rfl, hcd, rfl, by simp; omega, ?_, ?_, hfr⟩
    · intro k hk
      rcases List.mem_append.1 hk with hk | hk
      · exact hp k (mem_outb.1 hk).1
      · simp at hk; subst hk; exact hp f hf
    · have e : blks (outb C.L f.b ++ [{ f with u := C.hi + 1 + C.mi }]) = (blks C.L).filter (fun z => !(z == (f.b : Int))) ++ [(f.b : Int)] := by
        rw [blks_append, blks_outb]; rfl
      show blks (outb C.L f.b ++ [{ f with u := C.hi + 1 + C.mi }]) = _
      rw [e]
      unfold nxt
      have hlt : ((blks C.L).filter (fun z => !(z == (f.b : Int))) ++ [(f.b : Int)]).length ≤ C.bd := by
        rw [← e, blks_len]
        exact hcd.ci.len
      rw [if_neg (by omega)]
  · have hno : ∀ k ∈ C.L, ¬ k.b = b := fun k hk e => hm ⟨k, hk, e⟩
    have e0 : S.fl b = 0 := by rw [h0]
    refine (get_new h h.di.ok b hb hno hc (canGo_all hp hbd) e0).mono ?_
    rintro e w1 ⟨g, cap, gn, rfl, _, _, hcd, hfr⟩
    refine ⟨g, cap, _, rfl, hcd, rfl, by simp; omega, ?_, ?_, hfr⟩
    · intro k hk
      rcases List.mem_append.1 hk with hk | hk
      · exact hp k ((room_sub C).subset hk)
      · simp at hk; subst hk; rfl
    · show blks (room C ++ [_]) = _
      rw [blks_append, room_all hp hnd hbd]
      have ef : (blks C.L).filter (fun z => !(z == (b : Int))) = blks C.L := by
        rw [List.filter_eq_self]
        intro z hz
        obtain ⟨k, hk, rfl⟩ := List.mem_map.1 hz
        have := hno k hk
        simp
        omega
      unfold nxt
      rw [ef, List.length_append, blks_len]
      by_cases hfull : C.bd ≤ C.L.length
      · rw [if_pos hfull, if_pos (by simp; omega)]
        cases hL : C.L with
        | nil => rw [hL] at hfull; simp at hfull; omega
        | cons f L => simp [blks]
      · rw [if_neg hfull, if_neg (by simp; omega)]
        rfl
theorem CW.notin {N : Nat} (h : CW B w c mb d N C) {k : Nat} {cs : Array Value} {t : TypeId} (hk : w.heap[k]? = some (.cells cs t (0, 0))) (h1 : t ≠ 56) (h2 : t ≠ 90) : ¬ cfoot c mb C k := by
  rintro (rfl | rfl | ⟨f, hf, rfl⟩)
  · have := h.row
    rw [hk] at this
    simp only [Option.some.injEq, Obj.cells.injEq] at this
    exact h1 this.2.1
  · obtain ⟨D, ⟨es, ck, hm, _⟩, _⟩ := h.map.ex
    rw [hk] at hm
    simp at hm
  · have := h.buf f hf
    rw [hk] at this
    simp only [Option.some.injEq, Obj.cells.injEq] at this
    exact h2 this.2.1
end

theorem eight_mod (b : Int) : ∃ k : Nat, k < 8 ∧ wrap64 ((IntKind.u64.wrap b).tmod 8) = (k : Int) ∧ wrap64 (1 + (k : Int)) = 1 + (k : Int) := by
  have h0 : 0 ≤ IntKind.u64.wrap b := by
    simp [IntKind.wrap, IntKind.bits, IntKind.signed]
    omega
  rw [Int.tmod_eq_emod_of_nonneg h0]
  generalize IntKind.u64.wrap b = u at *
  refine ⟨(u % 8).toNat, by omega, ?_, ?_⟩ <;> unfold wrap64 <;> omega
theorem K_mod (K : Nat) (hK : 1 ≤ K) (h12 : K ≤ 12) (b : Int) : ∃ k : Nat, k < K ∧ wrap64 ((IntKind.u64.wrap b).tmod (K : Int)) = (k : Int) := by
  have h0 : 0 ≤ IntKind.u64.wrap b := by
    simp [IntKind.wrap, IntKind.bits, IntKind.signed]
    omega
  rw [Int.tmod_eq_emod_of_nonneg h0]
  generalize IntKind.u64.wrap b = u at *
  have h1 : 0 ≤ u % (K : Int) := Int.emod_nonneg _ (by omega)
  have h2 : u % (K : Int) < K := Int.emod_lt_of_pos _ (by omega)
  refine ⟨(u % (K : Int)).toNat, by omega, ?_⟩
  unfold wrap64; omega
theorem K_u64 (K : Nat) (h12 : K ≤ 12) : IntKind.u64.wrap (K : Int) = (K : Int) := by
  simp [IntKind.wrap, IntKind.bits, IntKind.signed]
  omega

theorem blks_rng {B : Nat} {w : World} {c mb d N : Nat} {C : Ch} (h : CW B w c mb d N C) : ∀ x ∈ blks C.L, -9223372036854775808 ≤ x ∧ x ≤ 9223372036854775807 := by
  intro x hx
  obtain ⟨f, hf, rfl⟩ := List.mem_map.1 hx
  have := h.bs f hf
  have := h.N12
  omega

/-- What is taken away at its first place is taken away altogether, where each stands once. -/
theorem split_idx {zs : List Int} (hn : zs.Nodup) {i : Nat} (hi : i < zs.length) : ∃ p q, zs = p ++ zs.getD i 0 :: q ∧ p.length = i ∧ zs.filter (fun z => !(z == zs.getD i 0)) = p ++ q := by
  have hd : zs.getD i 0 = zs[i] := by simp [List.getD_eq_getElem?_getD, hi]
  rw [hd]
  refine ⟨zs.take i, zs.drop (i + 1), ?_, by simp; omega, ?_⟩
  · rw [List.getElem_cons_drop, List.take_append_drop]
  · generalize hy : zs[i] = y
    have e : zs = zs.take i ++ y :: zs.drop (i + 1) := by rw [← hy, List.getElem_cons_drop, List.take_append_drop]
    generalize zs.take i = p at *
    generalize zs.drop (i + 1) = q at *
    subst e
    rw [List.nodup_append] at hn
    obtain ⟨_, h2, h3⟩ := hn
    rw [List.nodup_cons] at h2
    rw [List.filter_append, List.filter_cons]
    simp only [beq_self_eq_true, Bool.not_true, Bool.false_eq_true, if_false]
    congr 1
    · rw [List.filter_eq_self]
      intro z hz
      have := h3 z hz y (by simp)
      simpa using this
    · rw [List.filter_eq_self]
      intro z hz
      have : z ≠ y := fun e => h2.1 (e ▸ hz)
      simpa using this

theorem CD.grown {B : Nat} {w w' : World} {c mb d dm df : Nat} {dq : Value} {C : Ch} {S : St} (h : CD B w c mb d dm df dq C S) {row : Option Nat} (hg : w.grownBy w' row) (hr : ∀ k, row = some k → ∃ cs, w.heap[k]? = some (.cells cs 3 (0, 0))) : CD B w' c mb d dm df dq C S :=
  ⟨h.ci.kept (fun k hk => hg.block k (h.ci.toCW.in k hk).2 (fun e => by
    obtain ⟨cs, hc⟩ := hr k e.symm
    exact h.ci.toCW.notin hc (by decide) (by decide) hk)), h.di.kept (fun k hk => hg.block k (h.di.in k hk).2 (fun e => by
    obtain ⟨cs, hc⟩ := hr k e.symm
    exact h.di.notin hc (by decide) (by decide) hk)), h.ne⟩

theorem Nums.ii {H : Nat} {w : World} {v : Value} {zs : List Int} (h : Nums H w v zs) {n : Nat} (hn : zs.length = n) (h8 : n * 8 ≤ 140737488355328) (hr : ∀ x ∈ zs, -9223372036854775808 ≤ x ∧ x ≤ 9223372036854775807) : ∃ p c, v = .slice p n c ∧ II w p n zs := by
  subst hn
  obtain ⟨p, c, rfl, _⟩ := h.shape
  exact ⟨p, c, rfl, row_ii h h8 hr⟩
theorem Win.iin {B : Nat} {w : World} {p : Option Addr} {n c : Nat} {zs : List Int} (h : Win B w (.slice p n c) zs) (h8 : n * 8 ≤ 140737488355328) (hr : ∀ x ∈ zs, -9223372036854775808 ≤ x ∧ x ≤ 9223372036854775807) : II w p n zs := by
  rcases h with ⟨e, rfl⟩ | ⟨g, pre, suf, k, e, ha⟩
  · obtain ⟨rfl, rfl, rfl⟩ := Value.slice.inj e
    exact ⟨rfl, by simp, by simp, fun h => by simp at h⟩
  · obtain ⟨rfl, rfl, rfl⟩ := Value.slice.inj e
    exact ⟨rfl, h8, hr, fun _ => ⟨g, pre.length, rfl, fun i hi => ha.cell i hi⟩⟩
theorem Win.cast {B : Nat} {w : World} {v : Value} {zs ys : List Int} (h : Win B w v zs) (e : zs = ys) : Win B w v ys := e ▸ h
theorem getD_mem {zs : List Int} {i : Nat} (hi : i < zs.length) : zs.getD i 0 ∈ zs := by
  rw [List.getD_eq_getElem?_getD, List.getElem?_eq_getElem hi]
  exact List.getElem_mem hi

theorem held_eq {B : Nat} {w : World} {c mb d dm df : Nat} {dq : Value} {C : Ch} {S : St} (h : CD B w c mb d dm df dq C S) {p : Option Addr} {n cp : Nat} {zs : List Int} (hW : Win B w (.slice p n cp) zs) (hn : zs.length = n) (he : blks C.L = zs) (h8 : n ≤ 64) :
    Calls Try.prog 11 #[.pointer (some ⟨c, 0, none⟩)] w fun e w' => ∃ p5 c5, e = .returned (.slice p5 n c5) ∧ Below w.heap.size w w' ∧ Calls Try.prog 10 #[.slice p5 n c5, .slice p n cp] w' fun e w'' => e = .returned (.bool true) ∧ Below w'.heap.size w' w'' := by
  refine (held_ok h.ci).mono ?_
  rintro e w5 ⟨v5, rfl, hN, hb⟩
  have hr := blks_rng h.ci.toCW
  rw [he] at hN hr
  obtain ⟨p5, c5, rfl, hj⟩ := hN.ii hn (by omega) hr
  exact ⟨p5, c5, rfl, hb, iequal_same p5 p n c5 cp zs w5 hj ((hW.later hb).iin (by omega) hr)⟩

theorem idelete_at {B : Nat} {w : World} {v : Value} {zs : List Int} (h : Win B w v zs) (hn : zs.Nodup) (h64 : zs.length ≤ 64) (i : Nat) (hi : i < zs.length) :
    Calls Try.prog 29 #[v, .int .i64 (i : Int), .int .i64 ((i : Int) + 1)] w fun e w' => ∃ v', e = .returned v' ∧ v'.ownBlock = v.ownBlock ∧ Win B w' v' (zs.filter (fun z => !(z == zs.getD i 0))) ∧ w.grownBy w' v.ownBlock := by
  obtain ⟨p, q, ez, ep, ef⟩ := split_idx hn hi
  rcases h with ⟨rfl, rfl⟩ | ⟨g, pre, suf, k, rfl, ha⟩
  · simp at hi
  · rw [ef]
    generalize zs.getD i 0 = y at *
    subst ez
    subst ep
    refine (idelete_ok ha h64).mono ?_
    rintro e w' ⟨⟨v, rfl, ho, hW⟩, hg⟩
    exact ⟨v, rfl, ho, hW, hg⟩
theorem nxt_cut {bd : Nat} {zs : List Int} {b : Int} (h : bd < (zs.filter (fun z => !(z == b))).length + 1) : nxt bd zs b = (zs.filter (fun z => !(z == b)) ++ [b]).tail := by
  unfold nxt
  rw [if_pos (by simpa using h)]
theorem nxt_no {bd : Nat} {zs : List Int} {b : Int} (h : ¬ bd < (zs.filter (fun z => !(z == b))).length + 1) : nxt bd zs b = zs.filter (fun z => !(z == b)) ++ [b] := by
  unfold nxt
  rw [if_neg (by simpa using h)]

set_option maxRecDepth 100000 in
set_option maxHeartbeats 2000000 in
theorem cacheOldest_walk (blocks bound : Int) (p : Option Addr) (m cp : Nat) (ks : List Int) (w : World) (hl : II w p m ks) :
    Calls Try.prog 7 #[.int .i64 blocks, .int .i64 bound, .slice p m cp] w fun e w' => e = .returned (.bool true) ∧ Below w.heap.size w w' := by
  obtain ⟨k0, hk0, ek, ek1⟩ := twelve_mod blocks
  obtain ⟨K, hK⟩ : ∃ K, K = 1 + k0 := ⟨_, rfl⟩
  have eK : 1 + (k0 : Int) = (K : Int) := by omega
  have hK1 : 1 ≤ K := by omega
  have hK2 : K ≤ 12 := by omega
  obtain ⟨n0, hn0, en, en1⟩ := eight_mod bound
  obtain ⟨n, hn⟩ : ∃ n, n = 1 + n0 := ⟨_, rfl⟩
  have eN : 1 + (n0 : Int) = (n : Int) := by omega
  have hn1 : 1 ≤ n := by omega
  have hn2 : n ≤ 8 := by omega
  have hbo := both_ok blocks (n : Int) w
  have HKK : Hid ((K : Int) = 1 + wrap64 ((IntKind.u64.wrap blocks).tmod 12)) := by show _ = _; rw [ek, eK]
  have hmm := hl.big
  have hlen := hl.len
  have hKu := K_u64 K hK2
  clear hK hn
  go_enter Try.func7, Try.ntmps7
  go_wp2_with (first
    | (go_at_call 8; refine Calls.mono hbo ?_; rintro e w1 ⟨K', a, x, hK1', hK2', eK', hb1, h9⟩; have h9 := h9.resolve_left (fun hb => by have := hb.1; omega); obtain ⟨n', c, mc, y, dm, df, dq, bv, qv, fv, gB, gQ, en', _, _, rfl, hcd, _, _⟩ := h9))
  obtain rfl : n' = n := by omega
  obtain rfl : K' = K := by have := HKK.out; omega
  have hSN : (Sb K' K').N = K' := Sb_N K' K'
  have hSf := Sb_fl K' K'
  generalize Sb K' K' = S at *
  clear eK' en' hbo
  clear h9 hk0 hn0
  go_loopw [12, 43] (fun v i wr => ∃ (j : Nat) (C : Ch), j ≤ m ∧ i = .int .i64 (j : Int) ∧ CD w.heap.size wr c mc a dm df dq C S ∧ C.bd = n' ∧ C.hi + C.mi = j ∧ (∀ f ∈ C.L, f.p = 0) ∧ Win w.heap.size wr v (blks C.L) ∧ Below w.heap.size w wr) (fun _ i _ => m - (intOf i).toNat)
  case atStart => exact ⟨0, _, by omega, rfl, hcd, rfl, rfl, by simp, .inl ⟨rfl, rfl⟩, hb1⟩
  case round =>
    clear hcd hb1
    obtain ⟨j, C, hj, rfl, hcd, hbd, hcnt, hp, hW, hbw⟩ := hrel
    by_cases hlt : j < m
    · obtain ⟨b1, o1, rfl, hc1⟩ := (hl.kept hbw).cells (by omega)
      have e1 := hc1 j hlt
      clear hc1
      obtain ⟨b, hbK, eb⟩ := K_mod K' hK1 hK2 (ks.getD j 0)
      have hget := get_any hcd hp hSf b (by omega) (by omega)
      have hjI : (j : Int) < (m : Int) := by omega
      have hj0 : (0 : Int) ≤ (j : Int) := by omega
      have hK0 : ¬ (K' : Int) = 0 := by omega
      generalize ks.getD j 0 = kj at *
      have hlenC : (blks C.L).length ≤ 8 := by rw [blks_len]; have := hcd.ci.len; omega
      have hrng := blks_rng hcd.ci.toCW
      have hnd : (blks C.L).Nodup := by
        have := hcd.ci.toCW.bnd
        have e : blks C.L = (C.L.map (·.b)).map (fun n : Nat => (n : Int)) := by simp [blks]
        rw [e]
        exact List.Pairwise.map _ (fun a b h e => h (by omega)) this
      obtain ⟨F, hF⟩ : ∃ F, (blks C.L).filter (fun z => !(z == (b : Int))) = F := ⟨_, rfl⟩
      have hFl : F.length ≤ 8 := by rw [← hF]; exact Nat.le_trans (List.length_filter_le _ _) hlenC
      by_cases hm : (b : Int) ∈ blks C.L
      · by_cases hcut : n' < F.length + 1
        · have hnx : nxt n' (blks C.L) (b : Int) = (F ++ [(b : Int)]).tail := by rw [← hF] at hcut ⊢; exact nxt_cut hcut
          obtain ⟨zz, hzz⟩ : ∃ zz, (F ++ [(b : Int)]).tail = zz := ⟨_, rfl⟩
          rw [hzz] at hnx
          have hzl : zz.length = F.length := by rw [← hzz]; simp
          have hT4 : ∀ B w g pre suf k, WinA B w g pre suf k (F ++ [(b : Int)]) → Win B w (.slice (some ⟨g, pre.length + 1, none⟩) (F.length) (F.length + k)) zz := by
            intro B w g pre suf k h
            rw [← hzl]
            cases hFF : F ++ [(b : Int)] with
            | nil => simp at hFF
            | cons y t =>
              rw [hFF] at h hzz
              simp at hzz
              subst hzz
              exact h.tail
          have hcI : (n' : Int) < (F.length : Int) + 1 := by omega
          clear hzz
          go_wp2_with (first
            | (go_at_call 15; refine Calls.mono hget ?_; rintro e w2 ⟨g, cap, C', rfl, hcd2, hbd2, hcnt2, hp2, hbl2, hf2⟩; have hbz := hbl2.trans (hbd ▸ hnx); have hW2 : Win w.heap.size w2 u12 (blks C.L) := hW.kept (fun g cs _ hr => hf2.block g (Array.getElem?_eq_some_iff.1 hr).1 (hcd.ci.toCW.notin hr (by decide) (by decide))); have hbw2 : Below w.heap.size w w2 := hbw.trans (hf2.below hbw.size (fun k hk => (hcd.ci.toCW.in k hk).1)); obtain ⟨pz, cz, rfl, hii⟩ := hW2.ii (by omega) hrng; have hix := index_ok pz _ cz (blks C.L) (b : Int) w2 hii)
            | (go_at_call 28; refine Calls.mono hix ?_; rintro e w' ⟨r, rfl, hr, rfl⟩; obtain ⟨i, rfl, hi, hib, _⟩ := hr.resolve_left (fun h => h.1 hm); have hdel := idelete_at hW2 hnd (by omega) i hi; have hi0 : (0 : Int) ≤ (i : Int) := (by omega); have hi1 : (i : Int) < 100 := (by omega))
            | (go_at_call 29; refine Calls.mono hdel ?_; rintro e w3 ⟨v3, rfl, hob, hW3, hg3⟩; rw [hib, hF] at hW3; have hb3 : Below w.heap.size w w3 := hbw2.grown hg3 hbw2.size (fun k hk => (hW2.lo k hk).1); have hcd3 := hcd2.grown hg3 (fun k hk => (hW2.lo k hk).2))
            | (at_builtin; refine wpList_push rfl _ _ rfl (hW3.later ((Below.refl _ _).alloc (Nat.le_refl _) _)) (by have := hb3.size; simp; omega) (by omega) _ (b : Int) (Boxed.new _ 3 _).cell rfl rfl ?_; intro g4 pre4 suf4 k4 w4 hA4 hg4; have hb3a := hb3.alloc hb3.size (.cells #[.int .i64 (b : Int)] 3); have hcd3a := hcd3.later ((Below.refl _ _).alloc (Nat.le_refl _) (.cells #[.int .i64 (b : Int)] 3)); have hlo3 := (hW3.later ((Below.refl _ _).alloc (Nat.le_refl _) (.cells #[.int .i64 (b : Int)] 3))).lo; have hb4 : Below w.heap.size w w4 := hb3a.grown hg4 hb3a.size (fun k hk => (hlo3 k hk).1); have hcd4 := hcd3a.grown hg4 (fun k hk => (hlo3 k hk).2); have hW4 := hT4 _ _ _ _ _ _ hA4; have hheld := held_eq hcd4 hW4 hzl hbz (by omega))
            | (go_at_call 11; refine Calls.mono hheld ?_; rintro e w5 ⟨p5, c5, rfl, hb5, heq⟩)
            | (go_at_call 10; refine Calls.mono heq ?_; rintro e w6 ⟨rfl, hb6⟩))
          go_roundw
          case rel => exact ⟨j + 1, C', by omega, by go_num, (hcd4.later hb5).later hb6, hbd2.trans hbd, by omega, hp2, ((hW4.later hb5).later hb6).cast hbz.symm, (hb4.trans (hb5.mono hb4.size)).trans (hb6.mono (Nat.le_trans hb4.size hb5.size))⟩
          case measure => simp [intOf]; omega
        · have hnx : nxt n' (blks C.L) (b : Int) = F ++ [(b : Int)] := by rw [← hF] at hcut ⊢; exact nxt_no hcut
          obtain ⟨zz, hzz⟩ : ∃ zz, F ++ [(b : Int)] = zz := ⟨_, rfl⟩
          rw [hzz] at hnx
          have hzl : zz.length = F.length + 1 := by rw [← hzz]; simp
          have hT4 : ∀ B w g pre suf k, WinA B w g pre suf k (F ++ [(b : Int)]) → Win B w (.slice (some ⟨g, pre.length, none⟩) (F.length + 1) (F.length + 1 + k)) zz := by
            intro B w g pre suf k h
            rw [hzz] at h
            rw [← hzl]
            exact h.win
          have hcI : ¬ (n' : Int) < (F.length : Int) + 1 := by omega
          clear hzz
          go_wp2_with (first
            | (go_at_call 15; refine Calls.mono hget ?_; rintro e w2 ⟨g, cap, C', rfl, hcd2, hbd2, hcnt2, hp2, hbl2, hf2⟩; have hbz := hbl2.trans (hbd ▸ hnx); have hW2 : Win w.heap.size w2 u12 (blks C.L) := hW.kept (fun g cs _ hr => hf2.block g (Array.getElem?_eq_some_iff.1 hr).1 (hcd.ci.toCW.notin hr (by decide) (by decide))); have hbw2 : Below w.heap.size w w2 := hbw.trans (hf2.below hbw.size (fun k hk => (hcd.ci.toCW.in k hk).1)); obtain ⟨pz, cz, rfl, hii⟩ := hW2.ii (by omega) hrng; have hix := index_ok pz _ cz (blks C.L) (b : Int) w2 hii)
            | (go_at_call 28; refine Calls.mono hix ?_; rintro e w' ⟨r, rfl, hr, rfl⟩; obtain ⟨i, rfl, hi, hib, _⟩ := hr.resolve_left (fun h => h.1 hm); have hdel := idelete_at hW2 hnd (by omega) i hi; have hi0 : (0 : Int) ≤ (i : Int) := (by omega); have hi1 : (i : Int) < 100 := (by omega))
            | (go_at_call 29; refine Calls.mono hdel ?_; rintro e w3 ⟨v3, rfl, hob, hW3, hg3⟩; rw [hib, hF] at hW3; have hb3 : Below w.heap.size w w3 := hbw2.grown hg3 hbw2.size (fun k hk => (hW2.lo k hk).1); have hcd3 := hcd2.grown hg3 (fun k hk => (hW2.lo k hk).2))
            | (at_builtin; refine wpList_push rfl _ _ rfl (hW3.later ((Below.refl _ _).alloc (Nat.le_refl _) _)) (by have := hb3.size; simp; omega) (by omega) _ (b : Int) (Boxed.new _ 3 _).cell rfl rfl ?_; intro g4 pre4 suf4 k4 w4 hA4 hg4; have hb3a := hb3.alloc hb3.size (.cells #[.int .i64 (b : Int)] 3); have hcd3a := hcd3.later ((Below.refl _ _).alloc (Nat.le_refl _) (.cells #[.int .i64 (b : Int)] 3)); have hlo3 := (hW3.later ((Below.refl _ _).alloc (Nat.le_refl _) (.cells #[.int .i64 (b : Int)] 3))).lo; have hb4 : Below w.heap.size w w4 := hb3a.grown hg4 hb3a.size (fun k hk => (hlo3 k hk).1); have hcd4 := hcd3a.grown hg4 (fun k hk => (hlo3 k hk).2); have hW4 := hT4 _ _ _ _ _ _ hA4; have hheld := held_eq hcd4 hW4 hzl hbz (by omega))
            | (go_at_call 11; refine Calls.mono hheld ?_; rintro e w5 ⟨p5, c5, rfl, hb5, heq⟩)
            | (go_at_call 10; refine Calls.mono heq ?_; rintro e w6 ⟨rfl, hb6⟩))
          go_roundw
          case rel => exact ⟨j + 1, C', by omega, by go_num, (hcd4.later hb5).later hb6, hbd2.trans hbd, by omega, hp2, ((hW4.later hb5).later hb6).cast hbz.symm, (hb4.trans (hb5.mono hb4.size)).trans (hb6.mono (Nat.le_trans hb4.size hb5.size))⟩
          case measure => simp [intOf]; omega
      · by_cases hcut : n' < F.length + 1
        · have hnx : nxt n' (blks C.L) (b : Int) = (F ++ [(b : Int)]).tail := by rw [← hF] at hcut ⊢; exact nxt_cut hcut
          obtain ⟨zz, hzz⟩ : ∃ zz, (F ++ [(b : Int)]).tail = zz := ⟨_, rfl⟩
          rw [hzz] at hnx
          have hzl : zz.length = F.length := by rw [← hzz]; simp
          have hT4 : ∀ B w g pre suf k, WinA B w g pre suf k (F ++ [(b : Int)]) → Win B w (.slice (some ⟨g, pre.length + 1, none⟩) (F.length) (F.length + k)) zz := by
            intro B w g pre suf k h
            rw [← hzl]
            cases hFF : F ++ [(b : Int)] with
            | nil => simp at hFF
            | cons y t =>
              rw [hFF] at h hzz
              simp at hzz
              subst hzz
              exact h.tail
          have ef : Hid (blks C.L = F) := by
            show blks C.L = F
            rw [← hF, eq_comm, List.filter_eq_self]
            intro z hz
            have : z ≠ (b : Int) := fun e => hm (e ▸ hz)
            simpa using this
          have hcI : (n' : Int) < (F.length : Int) + 1 := by omega
          clear hzz
          go_wp2_with (first
            | (go_at_call 15; refine Calls.mono hget ?_; rintro e w2 ⟨g, cap, C', rfl, hcd2, hbd2, hcnt2, hp2, hbl2, hf2⟩; have hbz := hbl2.trans (hbd ▸ hnx); have hW2 : Win w.heap.size w2 u12 (blks C.L) := hW.kept (fun g cs _ hr => hf2.block g (Array.getElem?_eq_some_iff.1 hr).1 (hcd.ci.toCW.notin hr (by decide) (by decide))); have hbw2 : Below w.heap.size w w2 := hbw.trans (hf2.below hbw.size (fun k hk => (hcd.ci.toCW.in k hk).1)); obtain ⟨pz, cz, rfl, hii⟩ := hW2.ii (by omega) hrng; have hix := index_ok pz _ cz (blks C.L) (b : Int) w2 hii)
            | (go_at_call 28; refine Calls.mono hix ?_; rintro e w' ⟨r, rfl, hr, rfl⟩; have hr1 := (hr.resolve_right (fun ⟨i, _, hi, hib, _⟩ => hm (by rw [← hib]; exact getD_mem hi))).2; subst hr1; have hW3 := hW2.cast ef.out; have hb3 := hbw2; have hcd3 := hcd2)
            | (at_builtin; refine wpList_push rfl _ _ rfl (hW3.later ((Below.refl _ _).alloc (Nat.le_refl _) _)) (by have := hb3.size; simp; omega) (by omega) _ (b : Int) (Boxed.new _ 3 _).cell rfl rfl ?_; intro g4 pre4 suf4 k4 w4 hA4 hg4; have hb3a := hb3.alloc hb3.size (.cells #[.int .i64 (b : Int)] 3); have hcd3a := hcd3.later ((Below.refl _ _).alloc (Nat.le_refl _) (.cells #[.int .i64 (b : Int)] 3)); have hlo3 := (hW3.later ((Below.refl _ _).alloc (Nat.le_refl _) (.cells #[.int .i64 (b : Int)] 3))).lo; have hb4 : Below w.heap.size w w4 := hb3a.grown hg4 hb3a.size (fun k hk => (hlo3 k hk).1); have hcd4 := hcd3a.grown hg4 (fun k hk => (hlo3 k hk).2); have hW4 := hT4 _ _ _ _ _ _ hA4; have hheld := held_eq hcd4 hW4 hzl hbz (by omega))
            | (go_at_call 11; refine Calls.mono hheld ?_; rintro e w5 ⟨p5, c5, rfl, hb5, heq⟩)
            | (go_at_call 10; refine Calls.mono heq ?_; rintro e w6 ⟨rfl, hb6⟩))
          go_roundw
          case rel => exact ⟨j + 1, C', by omega, by go_num, (hcd4.later hb5).later hb6, hbd2.trans hbd, by omega, hp2, ((hW4.later hb5).later hb6).cast hbz.symm, (hb4.trans (hb5.mono hb4.size)).trans (hb6.mono (Nat.le_trans hb4.size hb5.size))⟩
          case measure => simp [intOf]; omega
        · have hnx : nxt n' (blks C.L) (b : Int) = F ++ [(b : Int)] := by rw [← hF] at hcut ⊢; exact nxt_no hcut
          obtain ⟨zz, hzz⟩ : ∃ zz, F ++ [(b : Int)] = zz := ⟨_, rfl⟩
          rw [hzz] at hnx
          have hzl : zz.length = F.length + 1 := by rw [← hzz]; simp
          have hT4 : ∀ B w g pre suf k, WinA B w g pre suf k (F ++ [(b : Int)]) → Win B w (.slice (some ⟨g, pre.length, none⟩) (F.length + 1) (F.length + 1 + k)) zz := by
            intro B w g pre suf k h
            rw [hzz] at h
            rw [← hzl]
            exact h.win
          have ef : Hid (blks C.L = F) := by
            show blks C.L = F
            rw [← hF, eq_comm, List.filter_eq_self]
            intro z hz
            have : z ≠ (b : Int) := fun e => hm (e ▸ hz)
            simpa using this
          have hcI : ¬ (n' : Int) < (F.length : Int) + 1 := by omega
          clear hzz
          go_wp2_with (first
            | (go_at_call 15; refine Calls.mono hget ?_; rintro e w2 ⟨g, cap, C', rfl, hcd2, hbd2, hcnt2, hp2, hbl2, hf2⟩; have hbz := hbl2.trans (hbd ▸ hnx); have hW2 : Win w.heap.size w2 u12 (blks C.L) := hW.kept (fun g cs _ hr => hf2.block g (Array.getElem?_eq_some_iff.1 hr).1 (hcd.ci.toCW.notin hr (by decide) (by decide))); have hbw2 : Below w.heap.size w w2 := hbw.trans (hf2.below hbw.size (fun k hk => (hcd.ci.toCW.in k hk).1)); obtain ⟨pz, cz, rfl, hii⟩ := hW2.ii (by omega) hrng; have hix := index_ok pz _ cz (blks C.L) (b : Int) w2 hii)
            | (go_at_call 28; refine Calls.mono hix ?_; rintro e w' ⟨r, rfl, hr, rfl⟩; have hr1 := (hr.resolve_right (fun ⟨i, _, hi, hib, _⟩ => hm (by rw [← hib]; exact getD_mem hi))).2; subst hr1; have hW3 := hW2.cast ef.out; have hb3 := hbw2; have hcd3 := hcd2)
            | (at_builtin; refine wpList_push rfl _ _ rfl (hW3.later ((Below.refl _ _).alloc (Nat.le_refl _) _)) (by have := hb3.size; simp; omega) (by omega) _ (b : Int) (Boxed.new _ 3 _).cell rfl rfl ?_; intro g4 pre4 suf4 k4 w4 hA4 hg4; have hb3a := hb3.alloc hb3.size (.cells #[.int .i64 (b : Int)] 3); have hcd3a := hcd3.later ((Below.refl _ _).alloc (Nat.le_refl _) (.cells #[.int .i64 (b : Int)] 3)); have hlo3 := (hW3.later ((Below.refl _ _).alloc (Nat.le_refl _) (.cells #[.int .i64 (b : Int)] 3))).lo; have hb4 : Below w.heap.size w w4 := hb3a.grown hg4 hb3a.size (fun k hk => (hlo3 k hk).1); have hcd4 := hcd3a.grown hg4 (fun k hk => (hlo3 k hk).2); have hW4 := hT4 _ _ _ _ _ _ hA4; have hheld := held_eq hcd4 hW4 hzl hbz (by omega))
            | (go_at_call 11; refine Calls.mono hheld ?_; rintro e w5 ⟨p5, c5, rfl, hb5, heq⟩)
            | (go_at_call 10; refine Calls.mono heq ?_; rintro e w6 ⟨rfl, hb6⟩))
          go_roundw
          case rel => exact ⟨j + 1, C', by omega, by go_num, (hcd4.later hb5).later hb6, hbd2.trans hbd, by omega, hp2, ((hW4.later hb5).later hb6).cast hbz.symm, (hb4.trans (hb5.mono hb4.size)).trans (hb6.mono (Nat.le_trans hb4.size hb5.size))⟩
          case measure => simp [intOf]; omega
    · obtain rfl : j = m := by omega
      have hh := hits_ok hcd
      have hsum : (C.hi : Int) + (C.mi : Int) = (j : Int) := by omega
      have hhi : (C.hi : Int) ≤ (j : Int) := by omega
      go_wp2_with (first | (go_at_call 13; refine Calls.mono hh ?_; rintro e w2 ⟨rfl, q, rfl⟩))
      go_ret
      exact ⟨by first | rfl | exact ret_bool (by simp), below_drewN hbw q⟩
end Go.Proofs.Ytliljdencaocaaa
