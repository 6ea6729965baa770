/- L2 A1 A2 A3 -/
import Derived.Test.YtomkhipdcjnkhaaGreatFb16

/- The map of a cache's buffers: which blocks have one, and where it lies. -/
namespace Go.Proofs.YtomkhipdcjnkhaaGreat
open Go.RowKit Go.Maps
set_option maxRecDepth 100000
set_option linter.unusedVariables false

def adr (g : Nat) : DataW Unit := .lit (.int .i64 (g : Int))
def nilD : DataW Unit := .lit (.bool false)
def ptrR : Value → Option (DataW Unit × List MemPlace)
  | .pointer none => some (nilD, [])
  | .pointer (some ⟨g, 0, none⟩) => some (adr g, [])
  | _ => none
theorem ptrR_nil : ptrR (.pointer none) = some (nilD, []) := rfl
theorem ptrR_mk (g : Nat) : ptrR (.pointer (some ⟨g, 0, none⟩)) = some (adr g, []) := rfl
theorem ptrR_inv {v : Value} {g : Nat} {ps : List MemPlace} (h : ptrR v = some (adr g, ps)) : v = .pointer (some ⟨g, 0, none⟩) := by
  unfold ptrR at h
  split at h
  · simp [nilD, adr] at h
  · rename_i g'
    simp [adr] at h
    obtain rfl : g' = g := by omega
    rfl
  · cases h
theorem ptrR_inv0 {v : Value} {ps : List MemPlace} (h : ptrR v = some (nilD, ps)) : v = .pointer none := by
  unfold ptrR at h
  split at h
  · rfl
  · simp [nilD, adr] at h
  · cases h
theorem zero86p (w : World) : (zeroValue 424).run Tryz.prog w = .ok (.pointer none) w := by kernel_rfl

/-- Block mb is a map that leads from the blocks of M to where their buffers lie. -/
structure Bm (w : World) (mb : Nat) (M : List (Nat × Nat)) : Prop where
  ex : ∃ D, w.ownsMap Tryz.prog 3 ptrR mb (size D) D ∧ size D = M.length ∧ (∀ x, has D x = true → ∃ p ∈ M, x = key p.1) ∧ ∀ p ∈ M, has D (key p.1) = true ∧ D.atKey (key p.1) nilD = adr p.2
  nd : (M.map (·.1)).Nodup
  sm : M.length ≤ 2048

theorem bm_made (w : World) : Bm (w.alloc (.map #[] 0)) w.heap.size [] :=
  ⟨⟨.map [], w.ownsMap_made _ _ _, rfl, fun x h => by simp [has] at h, fun p hp => by cases hp⟩, List.nodup_nil, by simp⟩

theorem Bm.lt {w : World} {mb : Nat} {M : List (Nat × Nat)} (h : Bm w mb M) : mb < w.heap.size := by
  obtain ⟨D, ho, _⟩ := h.ex
  exact ho.lt
theorem Bm.kept {w w' : World} {mb : Nat} {M : List (Nat × Nat)} (h : Bm w mb M) (hb : w'.heap[mb]? = w.heap[mb]?) : Bm w' mb M := by
  obtain ⟨D, ⟨es, c, ho, r⟩, k⟩ := h.ex
  exact ⟨⟨D, ⟨es, c, hb.trans ho, r⟩, k⟩, h.nd, h.sm⟩

theorem Bm.hit {w : World} {mb : Nat} {M : List (Nat × Nat)} (h : Bm w mb M) (p : Nat × Nat) (hp : p ∈ M) (hb : p.1 < 9223372036854775808) :
    (Instr.lookup 414 (.map (some mb)) (.int .i64 (p.1 : Int)) false).run Tryz.prog w = .ok (.pointer (some ⟨p.2, 0, none⟩)) w := by
  obtain ⟨D, ho, _, _, hat⟩ := h.ex
  obtain ⟨v, ps, hr, hv⟩ := ho.lookup keyed3 Tryz.underlying414 (zero86p w) ptrR_nil (key_of (b := p.1) hb)
  rw [(hat p hp).2] at hv
  rw [hr, ptrR_inv hv]

theorem Bm.miss {w : World} {mb : Nat} {M : List (Nat × Nat)} (h : Bm w mb M) (b : Nat) (hp : ∀ p ∈ M, ¬ p.1 = b) (hb : b < 9223372036854775808) :
    (Instr.lookup 414 (.map (some mb)) (.int .i64 (b : Int)) false).run Tryz.prog w = .ok (.pointer none) w := by
  obtain ⟨D, ho, _, hk, hat⟩ := h.ex
  obtain ⟨v, ps, hr, hv⟩ := ho.lookup keyed3 Tryz.underlying414 (zero86p w) ptrR_nil (key_of (b := b) hb)
  have hn : has D (key b) = false := by
    cases e : has D (key b) with
    | false => rfl
    | true =>
      obtain ⟨p, hm, e'⟩ := hk _ e
      exact absurd (key_inj e').symm (hp p hm)
  rw [atKey_of_not_has hn] at hv
  rw [hr, ptrR_inv0 hv]

theorem Bm.update {w : World} {mb : Nat} {M : List (Nat × Nat)} (h : Bm w mb M) (b g : Nat) (hp : ∀ p ∈ M, ¬ p.1 = b) (hb : b < 9223372036854775808) (hl : M.length < 2048) :
    ∃ w', (Instr.mapUpdate 414 (.map (some mb)) (.int .i64 (b : Int)) (.pointer (some ⟨g, 0, none⟩))).run Tryz.prog w = .ok () w' ∧ Bm w' mb (M ++ [(b, g)]) ∧ w.grownBy w' (some mb) := by
  obtain ⟨D, ho, hs, hk, hat⟩ := h.ex
  obtain ⟨w', hr, ho', hg⟩ := ho.update keyed3 Tryz.underlying414 (show size D < maxLen by unfold maxLen; omega) (key_of (b := b) hb) (ptrR_mk g)
  have hn : has D (key b) = false := by
    cases e : has D (key b) with
    | false => rfl
    | true =>
      obtain ⟨p, hm, e'⟩ := hk _ e
      exact absurd (key_inj e').symm (hp p hm)
  refine ⟨w', hr, ⟨⟨_, tight ho', ?_, ?_, ?_⟩, ?_, ?_⟩, hg⟩
  · rw [size_put (ho.tidy keyed3), hn]; simp; omega
  · intro x hx
    by_cases e : x = key b
    · exact ⟨(b, g), by simp, e⟩
    · rw [has_put_other e] at hx
      obtain ⟨p, hm, e'⟩ := hk x hx
      exact ⟨p, by simp [hm], e'⟩
  · intro p hm
    rcases List.mem_append.1 hm with hm | hm
    · have e : key p.1 ≠ key b := fun e => hp p hm (key_inj e)
      rw [has_put_other e, atKey_put_other e]
      exact hat p hm
    · simp at hm
      subst hm
      exact ⟨has_put_same ho.isMap (key_is b) _, atKey_put_same ho.isMap (key_is b) _ _⟩
  · rw [List.map_append, List.nodup_append]
    refine ⟨h.nd, by simp, ?_⟩
    intro a ha c hc e
    simp at hc
    obtain ⟨p, hm, rfl⟩ := List.mem_map.1 ha
    exact hp p hm (by omega)
  · simp; omega

theorem filter_miss {M : List (Nat × Nat)} {b : Nat} (h : ∀ p ∈ M, ¬ p.1 = b) : M.filter (fun p => !(p.1 == b)) = M := by
  rw [List.filter_eq_self]
  intro p hp
  simpa using h p hp
theorem filter_hit {M : List (Nat × Nat)} (hd : (M.map (·.1)).Nodup) {p : Nat × Nat} (hp : p ∈ M) : (M.filter (fun q => !(q.1 == p.1))).length + 1 = M.length := by
  induction M with
  | nil => cases hp
  | cons q M ih =>
    rw [List.map_cons, List.nodup_cons] at hd
    by_cases e : q.1 = p.1
    · have hno : ∀ r ∈ M, ¬ r.1 = p.1 := fun r hm e2 => hd.1 (List.mem_map.2 ⟨r, hm, by rw [e2, e]⟩)
      rw [List.filter_cons, filter_miss hno]
      simp [e]
    · have hp' : p ∈ M := by
        rcases List.mem_cons.1 hp with h | h
        · subst h; exact absurd rfl e
        · exact h
      have ih := ih hd.2 hp'
      rw [List.filter_cons]
      have hb : (!(q.1 == p.1)) = true := by simpa using e
      rw [if_pos hb, List.length_cons, List.length_cons]
      omega

open Classical in
theorem Bm.delete {w : World} {mb : Nat} {M : List (Nat × Nat)} (h : Bm w mb M) (b : Nat) (hb : b < 9223372036854775808) (ty : TypeId) :
    ∃ w', (Builtin.delete_ #[414, 3] ty #[.map (some mb), .int .i64 (b : Int)]).run Tryz.prog w = .ok (.tuple #[]) w' ∧ Bm w' mb (M.filter (fun p => !(p.1 == b))) ∧ w.grownBy w' (some mb) := by
  obtain ⟨D, ho, hs, hk, hat⟩ := h.ex
  obtain ⟨w', hr, ho', hg⟩ := ho.drop keyed3 Tryz.underlying414 (key_of (b := b) hb) ty
  refine ⟨w', hr, ⟨⟨_, tight ho', ?_, ?_, ?_⟩, ?_, ?_⟩, hg.grown⟩
  · have hsz := size_del (k := key b) (ho.tidy keyed3)
    by_cases e : ∃ p ∈ M, p.1 = b
    · obtain ⟨p, hm, rfl⟩ := e
      rw [if_pos (hat p hm).1] at hsz
      have hfl := filter_hit h.nd hm
      omega
    · have hn : ¬ has D (key b) = true := fun hh => by
        obtain ⟨p, hm, e'⟩ := hk _ hh
        exact e ⟨p, hm, (key_inj e').symm⟩
      rw [if_neg hn] at hsz
      rw [filter_miss (fun p hm e2 => e ⟨p, hm, e2⟩)]
      omega
  · intro x hx
    by_cases e : x = key b
    · subst e
      rw [has_del_same] at hx
      cases hx
    · rw [has_del_other e] at hx
      obtain ⟨p, hm, e'⟩ := hk x hx
      refine ⟨p, List.mem_filter.2 ⟨hm, ?_⟩, e'⟩
      have : ¬ p.1 = b := fun e2 => e (by rw [e', e2])
      simpa using this
  · intro p hm
    obtain ⟨hm, hne⟩ := List.mem_filter.1 hm
    have e : key p.1 ≠ key b := fun e => by
      have := key_inj e
      simp [this] at hne
    rw [has_del_other e, atKey_del_other e]
    exact hat p hm
  · exact List.Nodup.sublist ((List.filter_sublist).map _) h.nd
  · have := List.length_filter_le (fun p : Nat × Nat => !(p.1 == b)) M
    have := h.sm
    omega
end Go.Proofs.YtomkhipdcjnkhaaGreat

/- alloc: of a volume that no call made each call tells that there is none. -/
namespace Go.Proofs.YtomkhipdcjnkhaaGreat
open Go.RowKit Go.Maps Go.MuLone
set_option linter.unusedVariables false
set_option maxRecDepth 100000

theorem results_tmp3 {fn : Func} {t u x : Tmp} (h : fn.results = #[.tmp t, .tmp u, .tmp x]) (tmps : Array Value) (P : Program) (w : World) :
    (results fn tmps).run P w = .ok (.tuple #[tmps.getD t undef, tmps.getD u undef, tmps.getD x undef]) w := by
  simp [results, h]
theorem VVoid.kept {w w' : World} {v : Value} (h : VVoid w v) (hb : Below w.heap.size w w') : VVoid w' v := by
  rcases h with rfl | ⟨z, rfl, hc⟩
  · exact .inl rfl
  · exact .inr ⟨z, rfl, (hb.cell (p := ⟨z, 2, none⟩) (lt_of_cell hc)).trans hc⟩

section
variable {w : World} {v : Value} {G B I : Int}
set_option maxHeartbeats 400000 in
theorem refusal_void (h : VVoid w v) : Calls Tryz.prog 69 #[v, Mk.geomV G B I] w fun e w' => e = .returned (.int .i64 2) ∧ Below w.heap.size w w' := by
  have hb1 : Below w.heap.size w (w.alloc (Mk.geomO G B I)) := Mk.grew_alloc _ _
  have hv := vblocks_void (h.kept hb1)
  go_enter Tryz.func69, Tryz.ntmps69
  go_wp2_with (first | (go_at_call 53; refine same_at hv ?_))
  go_ret
  exact ⟨rfl, hb1⟩
set_option maxHeartbeats 400000 in
theorem refusalNear_void (h : VVoid w v) (n : Int) : Calls Tryz.prog 58 #[v, Mk.geomV G B I, .int .i64 n] w fun e w' => e = .returned (.int .i64 2) ∧ Below w.heap.size w w' := by
  obtain ⟨W1, hW1⟩ : ∃ W1, w.alloc (Mk.geomO G B I) = W1 := ⟨_, rfl⟩
  have hb1 : Below w.heap.size w W1 := by rw [← hW1]; exact Mk.grew_alloc _ _
  have hg1 : W1.heap[w.heap.size]? = some (Mk.geomO G B I) := by rw [← hW1]; exact at_new rfl
  have hv := refusal_void (G := G) (B := B) (I := I) (h.kept hb1)
  go_enter Tryz.func58, Tryz.ntmps58
  go_wp2_with (first
    | (refine wpList_load_row rfl 34 (.tmp 4) rfl w.heap.size rfl 34 _ (0, 0) _ hg1 Tryz.underlying34 rfl Mk.info23 ?_))
  refine Mk.grew_at hv ?_
  intro w2 hb2
  have HB : Hid (Below w.heap.size w w2) := Mk.grew_trans hb1 hb2
  clear hv hg1 hb1 hb2
  dsimp only
  go_wp2_with fail
  go_ret
  exact ⟨rfl, HB.out⟩
set_option maxHeartbeats 400000 in
theorem refusalBlock_void (h : VVoid w v) (n : Int) : Calls Tryz.prog 65 #[v, Mk.geomV G B I, .int .i64 n] w fun e w' => e = .returned (.int .i64 2) ∧ Below w.heap.size w w' := by
  obtain ⟨W1, hW1⟩ : ∃ W1, w.alloc (Mk.geomO G B I) = W1 := ⟨_, rfl⟩
  have hb1 : Below w.heap.size w W1 := by rw [← hW1]; exact Mk.grew_alloc _ _
  have hg1 : W1.heap[w.heap.size]? = some (Mk.geomO G B I) := by rw [← hW1]; exact at_new rfl
  have hv := refusal_void (G := G) (B := B) (I := I) (h.kept hb1)
  go_enter Tryz.func65, Tryz.ntmps65
  go_wp2_with (first
    | (refine wpList_load_row rfl 34 (.tmp 4) rfl w.heap.size rfl 34 _ (0, 0) _ hg1 Tryz.underlying34 rfl Mk.info23 ?_))
  refine Mk.grew_at hv ?_
  intro w2 hb2
  have HB : Hid (Below w.heap.size w w2) := Mk.grew_trans hb1 hb2
  clear hv hg1 hb1 hb2
  dsimp only
  go_wp2_with fail
  go_ret
  exact ⟨rfl, HB.out⟩

set_option maxHeartbeats 400000 in
theorem refusalInode_void (h : VVoid w v) (n m : Int) : Calls Tryz.prog 67 #[v, Mk.geomV G B I, .int .i64 n, .int .i64 m] w fun e w' => e = .returned (.int .i64 2) ∧ Below w.heap.size w w' := by
  obtain ⟨W1, hW1⟩ : ∃ W1, w.alloc (Mk.geomO G B I) = W1 := ⟨_, rfl⟩
  have hb1 : Below w.heap.size w W1 := by rw [← hW1]; exact Mk.grew_alloc _ _
  have hg1 : W1.heap[w.heap.size]? = some (Mk.geomO G B I) := by rw [← hW1]; exact at_new rfl
  have hv := refusal_void (G := G) (B := B) (I := I) (h.kept hb1)
  go_enter Tryz.func67, Tryz.ntmps67
  go_wp2_with (first
    | (refine wpList_load_row rfl 34 (.tmp 5) rfl w.heap.size rfl 34 _ (0, 0) _ hg1 Tryz.underlying34 rfl Mk.info23 ?_))
  refine Mk.grew_at hv ?_
  intro w2 hb2
  have HB : Hid (Below w.heap.size w w2) := Mk.grew_trans hb1 hb2
  clear hv hg1 hb1 hb2
  dsimp only
  go_wp2_with fail
  go_ret
  exact ⟨rfl, HB.out⟩

set_option maxHeartbeats 400000 in
theorem block_void (h : VVoid w v) (n : Int) (s : Value) : Calls Tryz.prog 19 #[v, Mk.geomV G B I, .int .i64 n, s] w fun e w' => e = .returned (.tuple #[.int .i64 0, .int .i64 0, .int .i64 2]) ∧ Below w.heap.size w w' := by
  obtain ⟨W1, hW1⟩ : ∃ W1, w.alloc (Mk.geomO G B I) = W1 := ⟨_, rfl⟩
  have hb1 : Below w.heap.size w W1 := by rw [← hW1]; exact Mk.grew_alloc _ _
  have hg1 : W1.heap[w.heap.size]? = some (Mk.geomO G B I) := by rw [← hW1]; exact at_new rfl
  have hv := refusalNear_void (G := G) (B := B) (I := I) (h.kept hb1) n
  go_enter Tryz.func19, Tryz.ntmps19
  go_wp2_with (first
    | (refine wpList_load_row rfl 34 (.tmp 5) rfl w.heap.size rfl 34 _ (0, 0) _ hg1 Tryz.underlying34 rfl Mk.info23 ?_))
  refine Mk.grew_at hv ?_
  intro w2 hb2
  have HB : Hid (Below w.heap.size w w2) := Mk.grew_trans hb1 hb2
  clear hv hg1 hb1 hb2
  dsimp only
  go_wp2_with fail
  refine bodyPost_ret (results_tmp3 Tryz.results19 _ _ _) rfl ?_
  exact ⟨rfl, HB.out⟩

set_option maxHeartbeats 400000 in
theorem inode_void (h : VVoid w v) (n : Int) (b : Bool) : Calls Tryz.prog 20 #[v, Mk.geomV G B I, .int .i64 n, .bool b] w fun e w' => e = .returned (.tuple #[.int .i64 0, .int .i64 0, .int .i64 2]) ∧ Below w.heap.size w w' := by
  obtain ⟨W1, hW1⟩ : ∃ W1, w.alloc (Mk.geomO G B I) = W1 := ⟨_, rfl⟩
  have hb1 : Below w.heap.size w W1 := by rw [← hW1]; exact Mk.grew_alloc _ _
  have hg1 : W1.heap[w.heap.size]? = some (Mk.geomO G B I) := by rw [← hW1]; exact at_new rfl
  have hv := refusalNear_void (G := G) (B := B) (I := I) (h.kept hb1) n
  go_enter Tryz.func20, Tryz.ntmps20
  go_wp2_with (first
    | (refine wpList_load_row rfl 34 (.tmp 5) rfl w.heap.size rfl 34 _ (0, 0) _ hg1 Tryz.underlying34 rfl Mk.info23 ?_))
  refine Mk.grew_at hv ?_
  intro w2 hb2
  have HB : Hid (Below w.heap.size w w2) := Mk.grew_trans hb1 hb2
  clear hv hg1 hb1 hb2
  dsimp only
  go_wp2_with fail
  refine bodyPost_ret (results_tmp3 Tryz.results20 _ _ _) rfl ?_
  exact ⟨rfl, HB.out⟩

set_option maxHeartbeats 400000 in
theorem freeBlock_void (h : VVoid w v) (n : Int) (s : Value) : Calls Tryz.prog 21 #[v, Mk.geomV G B I, .int .i64 n, s] w fun e w' => e = .returned (.tuple #[.int .i64 0, .int .i64 2]) ∧ Below w.heap.size w w' := by
  obtain ⟨W1, hW1⟩ : ∃ W1, w.alloc (Mk.geomO G B I) = W1 := ⟨_, rfl⟩
  have hb1 : Below w.heap.size w W1 := by rw [← hW1]; exact Mk.grew_alloc _ _
  have hg1 : W1.heap[w.heap.size]? = some (Mk.geomO G B I) := by rw [← hW1]; exact at_new rfl
  have hv := refusalBlock_void (G := G) (B := B) (I := I) (h.kept hb1) n
  go_enter Tryz.func21, Tryz.ntmps21
  go_wp2_with (first
    | (refine wpList_load_row rfl 34 (.tmp 5) rfl w.heap.size rfl 34 _ (0, 0) _ hg1 Tryz.underlying34 rfl Mk.info23 ?_))
  refine Mk.grew_at hv ?_
  intro w2 hb2
  have HB : Hid (Below w.heap.size w w2) := Mk.grew_trans hb1 hb2
  clear hv hg1 hb1 hb2
  dsimp only
  go_wp2_with fail
  go_ret2
  exact ⟨rfl, HB.out⟩

set_option maxHeartbeats 400000 in
theorem freeInode_void (h : VVoid w v) (n : Int) (s : Value) : Calls Tryz.prog 22 #[v, Mk.geomV G B I, .int .i64 n, s] w fun e w' => e = .returned (.tuple #[.int .i64 0, .int .i64 2]) ∧ Below w.heap.size w w' := by
  obtain ⟨W1, hW1⟩ : ∃ W1, w.alloc (Mk.geomO G B I) = W1 := ⟨_, rfl⟩
  have hb1 : Below w.heap.size w W1 := by rw [← hW1]; exact Mk.grew_alloc _ _
  have hg1 : W1.heap[w.heap.size]? = some (Mk.geomO G B I) := by rw [← hW1]; exact at_new rfl
  have hv := refusalInode_void (G := G) (B := B) (I := I) (h.kept hb1) n 3
  go_enter Tryz.func22, Tryz.ntmps22
  go_wp2_with (first
    | (refine wpList_load_row rfl 34 (.tmp 5) rfl w.heap.size rfl 34 _ (0, 0) _ hg1 Tryz.underlying34 rfl Mk.info23 ?_))
  refine Mk.grew_at hv ?_
  intro w2 hb2
  have HB : Hid (Below w.heap.size w w2) := Mk.grew_trans hb1 hb2
  clear hv hg1 hb1 hb2
  dsimp only
  go_wp2_with fail
  go_ret2
  exact ⟨rfl, HB.out⟩

set_option maxHeartbeats 400000 in
theorem hasBlock_void (h : VVoid w v) (n : Int) : Calls Tryz.prog 23 #[v, Mk.geomV G B I, .int .i64 n] w fun e w' => e = .returned (.tuple #[.bool false, .int .i64 2]) ∧ Below w.heap.size w w' := by
  obtain ⟨W1, hW1⟩ : ∃ W1, w.alloc (Mk.geomO G B I) = W1 := ⟨_, rfl⟩
  have hb1 : Below w.heap.size w W1 := by rw [← hW1]; exact Mk.grew_alloc _ _
  have hg1 : W1.heap[w.heap.size]? = some (Mk.geomO G B I) := by rw [← hW1]; exact at_new rfl
  have hv := refusalBlock_void (G := G) (B := B) (I := I) (h.kept hb1) n
  go_enter Tryz.func23, Tryz.ntmps23
  go_wp2_with (first
    | (refine wpList_load_row rfl 34 (.tmp 4) rfl w.heap.size rfl 34 _ (0, 0) _ hg1 Tryz.underlying34 rfl Mk.info23 ?_))
  refine Mk.grew_at hv ?_
  intro w2 hb2
  have HB : Hid (Below w.heap.size w w2) := Mk.grew_trans hb1 hb2
  clear hv hg1 hb1 hb2
  dsimp only
  go_wp2_with fail
  go_ret2
  exact ⟨rfl, HB.out⟩

set_option maxHeartbeats 400000 in
theorem hasInode_void (h : VVoid w v) (n : Int) : Calls Tryz.prog 24 #[v, Mk.geomV G B I, .int .i64 n] w fun e w' => e = .returned (.tuple #[.bool false, .int .i64 2]) ∧ Below w.heap.size w w' := by
  obtain ⟨W1, hW1⟩ : ∃ W1, w.alloc (Mk.geomO G B I) = W1 := ⟨_, rfl⟩
  have hb1 : Below w.heap.size w W1 := by rw [← hW1]; exact Mk.grew_alloc _ _
  have hg1 : W1.heap[w.heap.size]? = some (Mk.geomO G B I) := by rw [← hW1]; exact at_new rfl
  have hv := refusalInode_void (G := G) (B := B) (I := I) (h.kept hb1) n 0
  go_enter Tryz.func24, Tryz.ntmps24
  go_wp2_with (first
    | (refine wpList_load_row rfl 34 (.tmp 4) rfl w.heap.size rfl 34 _ (0, 0) _ hg1 Tryz.underlying34 rfl Mk.info23 ?_))
  refine Mk.grew_at hv ?_
  intro w2 hb2
  have HB : Hid (Below w.heap.size w w2) := Mk.grew_trans hb1 hb2
  clear hv hg1 hb1 hb2
  dsimp only
  go_wp2_with fail
  go_ret2
  exact ⟨rfl, HB.out⟩

set_option maxHeartbeats 400000 in
theorem room_void (h : VVoid w v)  : Calls Tryz.prog 25 #[v, Mk.geomV G B I] w fun e w' => e = .returned (.tuple #[.int .i64 0, .int .i64 0, .int .i64 2]) ∧ Below w.heap.size w w' := by
  obtain ⟨W1, hW1⟩ : ∃ W1, w.alloc (Mk.geomO G B I) = W1 := ⟨_, rfl⟩
  have hb1 : Below w.heap.size w W1 := by rw [← hW1]; exact Mk.grew_alloc _ _
  have hg1 : W1.heap[w.heap.size]? = some (Mk.geomO G B I) := by rw [← hW1]; exact at_new rfl
  have hv := refusal_void (G := G) (B := B) (I := I) (h.kept hb1)
  go_enter Tryz.func25, Tryz.ntmps25
  go_wp2_with (first
    | (refine wpList_load_row rfl 34 (.tmp 3) rfl w.heap.size rfl 34 _ (0, 0) _ hg1 Tryz.underlying34 rfl Mk.info23 ?_))
  refine Mk.grew_at hv ?_
  intro w2 hb2
  have HB : Hid (Below w.heap.size w w2) := Mk.grew_trans hb1 hb2
  clear hv hg1 hb1 hb2
  dsimp only
  go_wp2_with fail
  refine bodyPost_ret (results_tmp3 Tryz.results25 _ _ _) rfl ?_
  exact ⟨rfl, HB.out⟩
end
end Go.Proofs.YtomkhipdcjnkhaaGreat

/- alloc.Header of a volume that no call made; alloc.Block of one that is too small. -/
namespace Go.Proofs.YtomkhipdcjnkhaaGreat
open Go.RowKit Go.Maps Go.MuLone
set_option linter.unusedVariables false
set_option maxRecDepth 100000

section
variable {w : World} {v : Value} {G B I : Int}
theorem zero70 (w : World) : (zeroValue 70).run Tryz.prog w = .ok (.agg (Mk.groupA 0 (Mk.zers 40))) w := by rw [Mk.zero38]; kernel_rfl
set_option maxHeartbeats 1000000 in
theorem header_void (h : VVoid w v) (n : Int) : Calls Tryz.prog 18 #[v, Mk.geomV G B I, .int .i64 n] w fun e w' => e = .returned (.tuple #[.agg (Mk.groupA 0 (Mk.zers 40)), .int .i64 2]) ∧ Below w.heap.size w w' := by
  obtain ⟨W1, hW1⟩ : ∃ W1, (w.alloc (Mk.geomO G B I)).alloc (Mk.groupO 0 (Mk.zers 40)) = W1 := ⟨_, rfl⟩
  have hb1 : Below w.heap.size w W1 := by rw [← hW1]; exact ((Below.refl _ w).alloc (Nat.le_refl _) _).alloc (by simp) _
  have hg1 : W1.heap[w.heap.size]? = some (Mk.geomO G B I) := by rw [← hW1]; exact at_old (at_new rfl)
  have hr1 : W1.heap[w.heap.size + 1]? = some (Mk.groupO 0 (Mk.zers 40)) := by rw [← hW1]; exact at_new (by simp)
  have hv := refusalNear_void (G := G) (B := B) (I := I) (h.kept hb1) n
  have z70 := zero70
  go_enter Tryz.func18, Tryz.ntmps18
  go_wp2_with (first
    | (refine wpList_load_row rfl 34 (.tmp 4) rfl w.heap.size rfl 34 _ (0, 0) _ hg1 Tryz.underlying34 rfl Mk.info23 ?_))
  refine Mk.grew_at hv ?_
  intro w2 hb2
  have hr2 := (hb2.block _ (Array.getElem?_eq_some_iff.1 hr1).1).trans hr1
  have HB : Hid (Below w.heap.size w w2) := Mk.grew_trans hb1 hb2
  clear hv hg1 hb1 hb2
  dsimp only
  go_wp2_with (first
    | (refine wpList_store_row rfl 70 (.tmp 6) _ rfl (w.heap.size + 1) (Mk.groupA 0 (Mk.zers 40)) rfl rfl 70 _ hr2 (Mk.info38 _ _ (Mk.zers_len _)) rfl (Mk.group_one _ _) ?_))
  refine bodyPost_ret (v := .tuple #[.agg (Mk.groupA 0 (Mk.zers 40)), .int .i64 2]) (Mk.results_cell_tmp_row (p := 6) (u := 7) (ty := 70) Tryz.results18 _ _ (w.heap.size + 1) 70 _ (0, 0) _ rfl (setRow_heap _ _ _ _ _ _ hr2) Tryz.underlying70 rfl (Mk.info38 _ _ (Mk.zers_len _))) rfl ?_
  exact ⟨rfl, belowRow HB.out (Nat.le_succ _) _⟩
end

/-- geom.Can and geom.Blocks of the greatest geometry. -/
theorem can_max (w : World) : Calls Tryz.prog 54 #[Mk.geomV 8 256 64] w fun e w' => e = .returned (.int .i64 0) ∧ Below w.heap.size w w' := Mk.can_ok 8 256 64 w
end Go.Proofs.YtomkhipdcjnkhaaGreat

/- What alloc, snap, inode ask of a volume first. -/
namespace Go.Proofs.YtomkhipdcjnkhaaGreat
open Go.RowKit Go.Maps Go.MuLone
set_option linter.unusedVariables false
set_option maxRecDepth 100000

/-- v is a volume over a disk of k blocks. -/
def VHas (w : World) (v : Nat) (k : Int) : Prop := ∃ d, w.cell? ⟨v, 2, none⟩ = some (.pointer (some ⟨d, 0, none⟩)) ∧ w.cell? ⟨d, 0, none⟩ = some (.int .i64 k)
theorem VHas.kept {w w' : World} {v : Nat} {k : Int} (h : VHas w v k) (hb : Below w.heap.size w w') : VHas w' v k := by
  obtain ⟨d, h1, h2⟩ := h
  exact ⟨d, (hb.cell (p := ⟨v, 2, none⟩) (lt_of_cell h1)).trans h1, (hb.cell (p := ⟨d, 0, none⟩) (lt_of_cell h2)).trans h2⟩
theorem VHas.blocks {w : World} {v : Nat} {k : Int} (h : VHas w v k) : Calls Tryz.prog 53 #[.pointer (some ⟨v, 0, none⟩)] w fun e w' => e = .returned (.int .i64 k) ∧ w' = w := by
  obtain ⟨d, h1, h2⟩ := h
  exact vblocks_ok h1 h2
/-- Three cells of a geometry in memory. -/
structure G3 (w : World) (b : Nat) (G B I : Int) : Prop where
  c0 : w.cell? ⟨b, 0, none⟩ = some (.int .i64 G)
  c1 : w.cell? ⟨b, 1, none⟩ = some (.int .i64 B)
  c2 : w.cell? ⟨b, 2, none⟩ = some (.int .i64 I)
theorem g3_of {w : World} {b : Nat} {G B I : Int} (h : w.heap[b]? = some (Mk.geomO G B I)) : G3 w b G B I := ⟨cell_of_row _ _ 0 _ _ _ h, cell_of_row _ _ 1 _ _ _ h, cell_of_row _ _ 2 _ _ _ h⟩
theorem G3.kept {w w' : World} {b : Nat} {G B I : Int} (h : G3 w b G B I) (hb : Below w.heap.size w w') : G3 w' b G B I :=
  ⟨(hb.cell (p := ⟨b, 0, none⟩) (lt_of_cell h.c0)).trans h.c0, (hb.cell (p := ⟨b, 1, none⟩) (lt_of_cell h.c1)).trans h.c1, (hb.cell (p := ⟨b, 2, none⟩) (lt_of_cell h.c2)).trans h.c2⟩

set_option maxHeartbeats 2000000 in
theorem refusal_small {w : World} {v : Nat} {k G B I N : Int} (h : VHas w v k) (hk : ¬ k = 0) (hm : Mk.Gm.May G B I) (hN : G * B = N) (hlt : k < N) : Calls Tryz.prog 69 #[.pointer (some ⟨v, 0, none⟩), Mk.geomV G B I] w fun e w' => e = .returned (.int .i64 170) ∧ Below w.heap.size w w' := by
  have hb1 : Below w.heap.size w (w.alloc (Mk.geomO G B I)) := Mk.grew_alloc _ _
  have hg1 : (w.alloc (Mk.geomO G B I)).heap[w.heap.size]? = some (Mk.geomO G B I) := at_new rfl
  obtain ⟨W1, hW1⟩ : ∃ W1, w.alloc (Mk.geomO G B I) = W1 := ⟨_, rfl⟩
  rw [hW1] at hb1 hg1
  have hv1 := h.kept hb1
  have c1 := hv1.blocks
  have hkb : (k == 0) = false := by rw [beq_eq_false_iff_ne]; exact hk
  have hd : Below W1.heap.size W1 W1.drew := (Below.refl _ _).drew
  have hv2 := hv1.kept hd
  have g2 := (g3_of hg1).kept hd
  have q0 := g2.c0
  have q1 := g2.c1
  have q2 := g2.c2
  have hca := Mk.can_ok G B I W1.drew
  rw [Mk.Gm.can, if_pos hm] at hca
  have HB : Hid (Below w.heap.size w W1.drew) := hb1.drew
  have HN : Hid (G * B = N) := hN
  have HM : Hid (Mk.Gm.May G B I) := hm
  clear hm hN hb1 hd
  go_enter Tryz.func69, Tryz.ntmps69
  go_wp2_with (first | (go_at_call 53; refine same_at c1 ?_))
  go_region_with (first
    | (go_at_call 54; refine Mk.grew_at hca ?_; intro w2 hb2; have hv3 := hv2.kept hb2; have g3 := g2.kept hb2; have q0' := g3.c0; have q1' := g3.c1; have q2' := g3.c2; have hb3 := Mk.blocks_ok G B I w2; rw [Mk.Gm.num, if_pos HM.out, HN.out] at hb3; have cb := hv3.blocks)
    | (go_at_call 53; first | refine same_at cb ?_ | refine same_at cb' ?_)
    | (go_at_call 49; refine Mk.grew_at hb3 ?_; intro w4 hb4; have cb' := (hv3.kept hb4).blocks))
  all_goals go_wp2_with fail
  all_goals go_ret
  all_goals exact ⟨rfl, Mk.grew_trans (Mk.grew_trans HB.out hb2) hb4⟩
set_option maxHeartbeats 2000000 in
theorem refusal_fit {w : World} {v : Nat} {k G B I N : Int} (h : VHas w v k) (hk : ¬ k = 0) (hm : Mk.Gm.May G B I) (hN : G * B = N) (hlt : ¬ k < N) : Calls Tryz.prog 69 #[.pointer (some ⟨v, 0, none⟩), Mk.geomV G B I] w fun e w' => e = .returned (.int .i64 0) ∧ Below w.heap.size w w' := by
  have hb1 : Below w.heap.size w (w.alloc (Mk.geomO G B I)) := Mk.grew_alloc _ _
  have hg1 : (w.alloc (Mk.geomO G B I)).heap[w.heap.size]? = some (Mk.geomO G B I) := at_new rfl
  obtain ⟨W1, hW1⟩ : ∃ W1, w.alloc (Mk.geomO G B I) = W1 := ⟨_, rfl⟩
  rw [hW1] at hb1 hg1
  have hv1 := h.kept hb1
  have c1 := hv1.blocks
  have hkb : (k == 0) = false := by rw [beq_eq_false_iff_ne]; exact hk
  have hd : Below W1.heap.size W1 W1.drew := (Below.refl _ _).drew
  have hv2 := hv1.kept hd
  have g2 := (g3_of hg1).kept hd
  have q0 := g2.c0
  have q1 := g2.c1
  have q2 := g2.c2
  have hca := Mk.can_ok G B I W1.drew
  rw [Mk.Gm.can, if_pos hm] at hca
  have HB : Hid (Below w.heap.size w W1.drew) := hb1.drew
  have HN : Hid (G * B = N) := hN
  have HM : Hid (Mk.Gm.May G B I) := hm
  clear hm hN hb1 hd
  go_enter Tryz.func69, Tryz.ntmps69
  go_wp2_with (first | (go_at_call 53; refine same_at c1 ?_))
  go_region_with (first
    | (go_at_call 54; refine Mk.grew_at hca ?_; intro w2 hb2; have hv3 := hv2.kept hb2; have g3 := g2.kept hb2; have q0' := g3.c0; have q1' := g3.c1; have q2' := g3.c2; have hb3 := Mk.blocks_ok G B I w2; rw [Mk.Gm.num, if_pos HM.out, HN.out] at hb3; have cb := hv3.blocks)
    | (go_at_call 53; first | refine same_at cb ?_ | refine same_at cb' ?_)
    | (go_at_call 49; refine Mk.grew_at hb3 ?_; intro w4 hb4; have cb' := (hv3.kept hb4).blocks))
  all_goals go_wp2_with fail
  all_goals go_ret
  all_goals exact ⟨rfl, Mk.grew_trans (Mk.grew_trans HB.out hb2) hb4⟩
end Go.Proofs.YtomkhipdcjnkhaaGreat
