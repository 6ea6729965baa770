/- A block that is fetched: its buffer is made, another one goes where there is no room. -/
import Derived.Test.YtliljdencaocaaaFetch
import Derived.Deep.DeepCutAuto
namespace Go.Proofs.Ytliljdencaocaaa
open Go.RowKit Go.Maps
set_option linter.unusedVariables false

/-- The buffers that stay when another one is to come. -/
def room (C : Ch) : List Bf := if C.bd ≤ C.L.length then (match vic C.L with | some f => outb C.L f.b | none => C.L) else C.L

section
variable {B : Nat} {w w' : World} {c mb d dm df N : Nat} {dq : Value} {C : Ch} {S : St}
theorem outb_map (L : List Bf) (b : Nat) : (outb L b).map bg = (L.map bg).filter (fun p => !(p.1 == b)) := by
  unfold outb
  rw [List.filter_map]
  rfl
theorem sub_outb (L : List Bf) (b : Nat) : (outb L b).Sublist L := List.filter_sublist
theorem CW.out (h : CW B w c mb d N C) (b : Nat) (hb : b < N) (ty : TypeId) : ∃ w', (Builtin.delete_ #[54, 3] ty #[.map (some mb), .int .i64 (b : Int)]).run Try.prog w = .ok (.tuple #[]) w' ∧ CW B w' c mb d N { C with L := outb C.L b } ∧ w.grownBy w' (some mb) := by
  obtain ⟨w', hr, hm, hg⟩ := h.map.delete b (by have := h.N12; omega) ty
  have hk : ∀ k, k < w.heap.size → k ≠ mb → w'.heap[k]? = w.heap[k]? := fun k hk hne => hg.block k hk (by simpa using hne)
  refine ⟨w', hr, ?_, hg⟩
  have hsub := sub_outb C.L b
  exact { row := (hk c (Array.getElem?_eq_some_iff.1 h.row).1 (h.map_ne h.row)).trans h.row
          map := by show Bm w' mb ((outb C.L b).map bg); rw [outb_map]; exact hm
          buf := fun f hf => (hk f.g (Array.getElem?_eq_some_iff.1 (h.buf f (hsub.subset hf))).1 (h.map_ne (h.buf f (hsub.subset hf)))).trans (h.buf f (hsub.subset hf))
          sec := fun f hf => h.sec f (hsub.subset hf)
          gs := List.Nodup.sublist (hsub.map _) h.gs
          ps := fun f hf => h.ps f (hsub.subset hf)
          bs := fun f hf => h.bs f (hsub.subset hf)
          N12 := h.N12, bd := h.bd, len := Nat.le_trans hsub.length_le h.len, lo := ⟨h.lo.1, h.lo.2.1, fun f hf => h.lo.2.2 f (hsub.subset hf)⟩, cnt := h.cnt }

/-- A buffer more. -/
theorem CW.add (h : CW B w c mb d N C) {f : Bf} (hfb : f.b < N) (hno : ∀ k ∈ C.L, ¬ k.b = f.b) (hl : C.L.length < C.bd) (hs : Sect f.xs) (hp : f.p ≤ 100) (hB : B ≤ f.g) (hgn : ∀ k ∈ C.L, ¬ k.g = f.g)
    (hc : w'.heap[c]? = w.heap[c]?) (hm : Bm w' mb (C.L.map bg ++ [(f.b, f.g)])) (ho : ∀ k ∈ C.L, w'.heap[k.g]? = w.heap[k.g]?) (hn : w'.heap[f.g]? = some (.cells (bufA f) 90 (0, 0))) : CW B w' c mb d N { C with L := C.L ++ [f] } := by
  have key : ∀ {P : Bf → Prop}, (∀ k ∈ C.L, P k) → P f → ∀ k ∈ C.L ++ [f], P k := fun h1 h2 k hk => by
    rcases List.mem_append.1 hk with hk | hk
    · exact h1 k hk
    · simp at hk; subst hk; exact h2
  refine { row := hc.trans h.row, map := ?_, buf := key (fun k hk => (ho k hk).trans (h.buf k hk)) hn, sec := key h.sec hs, gs := ?_, ps := key h.ps hp, bs := key h.bs hfb, N12 := h.N12, bd := h.bd, len := ?_, lo := ⟨h.lo.1, h.lo.2.1, key h.lo.2.2 hB⟩, cnt := h.cnt }
  · show Bm w' mb ((C.L ++ [f]).map bg)
    rw [List.map_append]
    exact hm
  · show ((C.L ++ [f]).map (·.g)).Nodup
    rw [List.map_append, List.nodup_append]
    refine ⟨h.gs, by simp, ?_⟩
    intro a ha x hx e
    simp at hx
    obtain ⟨k, hk, rfl⟩ := List.mem_map.1 ha
    exact hgn k hk (by omega)
  · show (C.L ++ [f]).length ≤ C.bd
    simp
    omega

theorem room_sub (C : Ch) : (room C).Sublist C.L := by
  unfold room
  split
  · split
    · exact sub_outb _ _
    · exact List.Sublist.refl _
  · exact List.Sublist.refl _
theorem room_len (h : CW B w c mb d N C) (hg : canGo C) : (room C).length < C.bd := by
  unfold room
  have hbd := h.bd
  have hl := h.len
  split
  · rename_i hf
    obtain ⟨f, hv⟩ := hg hf
    rw [hv]
    have hm : f ∈ C.L := List.mem_of_find?_eq_some hv
    have := (outb_perm h.bnd hm).length_eq
    simp at this
    show (outb C.L f.b).length < C.bd
    omega
  · omega

theorem zero90 : Try.zeroCells90 = (bufL (zbuf 0)).toArray := by kernel_rfl
theorem zbuf_splice (xs : List Int) (hs : Sect xs) (g b : Nat) : splice (bufL (zbuf 0)) 0 (xs.map (Value.int .u8)) = bufL ⟨b, 0, 0, g, xs⟩ := by
  have hl := hs.1
  unfold splice bufL zbuf
  simp [hl, zer_len]

set_option maxRecDepth 100000 in
set_option maxHeartbeats 2000000 in
theorem fetch_ok (h : CD B w c mb d dm df dq C S) (hS : Ok S) (b : Nat) (hb : b < S.N) (hno : ∀ k ∈ C.L, ¬ k.b = b) (hg : canGo C) (h0 : S.fl b = 0) :
    Calls Try.prog 53 #[.pointer (some ⟨c, 0, none⟩), .int .i64 (b : Int)] w fun e w' => ∃ g, e = .returned (.int .i64 0) ∧ w.heap.size ≤ g ∧ CW B w' c mb d S.N { C with L := room C ++ [⟨b, 0, 0, g, S.f b⟩] } ∧ Frame (fun k => k = mb) w w' := by
  have c2 := h.ci.c2
  have c1 := h.ci.c1
  have hlen : ∀ q, (Builtin.len_ #[54] 3 #[.map (some mb)]).run Try.prog (w.drewN q) = .ok (.int .i64 (C.L.length : Int)) (w.drewN q) := fun q => len54 (h.ci.later (below_drewN (Below.refl _ _) q)).toCW 3
  have hold := fun q => oldest_ok (h.ci.later (below_drewN (Below.refl _ _) q))
  obtain ⟨vx, vy, eV, hvy, hvx⟩ := @vicV_ok C.L
  rw [eV] at hold
  have hread := fun w1 (hb1 : Below w.heap.size w w1) => read_ok (h.later hb1).di b hb h0
  have H := (show Hid _ from h)
  have HO := (show Hid _ from hold)
  have HR := (show Hid _ from hread)
  have HG := (show Hid _ from hg)
  have hrl := room_len h.ci.toCW hg
  have hvN := h.ci.N12
  have hbd64 := h.ci.bd
  clear hold h hread eV hg
  have hdel : C.bd ≤ C.L.length → vy = true ∧ ∃ f, vic C.L = some f ∧ vx = (f.b : Int) ∧ f ∈ C.L := by
    intro hf
    obtain ⟨f, hv⟩ := HG.out hf
    exact ⟨by rw [hvy, hv]; rfl, f, hv, hvx f hv, List.mem_of_find?_eq_some hv⟩
  clear hvy hvx
  go_enter Try.func53, Try.ntmps53
  by_cases hfull : C.bd ≤ C.L.length
  · have hfI : (C.bd : Int) ≤ (C.L.length : Int) := by omega
    obtain ⟨rfl, f, hv, rfl, hfm⟩ := hdel hfull
    clear hdel
    have hfb := H.out.ci.bs f hfm
    go_wp2_with fail
    go_quiet (fail)
    go_upto_region 10 with (first
      | (go_at_call 79; refine Calls.mono (HO.out _) ?_; rintro e w1 ⟨rfl, hb1⟩; have hb1 := (below_drewN (Below.refl w.heap.size w) nq).trans (hb1.mono (Nat.le_refl _)); have c0 := (H.out.later hb1).ci.c0)
      | (go_at_call 24; refine Calls.mono (HR.out _ hb1) ?_; rintro e w2 ⟨gx, rfl, hown, hb2⟩; have hb2 := hb1.trans (hb2.mono hb1.size); have c2 := (H.out.later hb2).ci.c2; obtain ⟨w3, hr3, hcw3, hg3⟩ := CW.out (H.out.later hb2).ci.toCW f.b hfb 0))
    have hfr3 : Frame (fun k => k = mb) w w3 := (frame_of_below hb2).trans (frame_of_grown hg3 (fun k hk => by cases hk; rfl))
    have hx3 : BI w3 (some ⟨gx, 0, none⟩) 128 (S.f b) := by
      have ho3 : Own w1.heap.size w3 gx 128 128 (S.f b) := by
        refine ownsRow_kept hown (fun k hk => hg3.block k (hown.lt k hk).2 ?_)
        intro e
        obtain ⟨cs, hc⟩ := own_ty hown hk
        exact (H.out.later hb2).ci.map_ne hc (by simpa using e)
      exact ho3.bi (by omega) (hS.sec b).2
    have eR : room C = outb C.L f.b := by unfold room; rw [if_pos hfull, hv]
    have hsubR := sub_outb C.L f.b
    rw [eR] at hrl
    have HE := (show Hid _ from eR)
    clear eR
    clear hr3 hown hb1 hg3
    have hz90 := zero90
    have hrow4 : (w3.alloc (.cells Try.zeroCells90 90)).heap[w3.heap.size]? = some (.cells (bufL (zbuf 0)).toArray 90 (0, 0)) := by
      rw [hz90]; exact World.alloc_heap_new w3 _
    have hb4 : Below w3.heap.size w3 (w3.alloc (.cells Try.zeroCells90 90)) := (Below.refl _ _).alloc (Nat.le_refl _) _
    have hsx := hS.sec b
    clear hlen c0 c1 c2 HO HR hz90
    go_wp2_with (first
      | (refine wpList_copy_splice rfl _ _ 29 29 rfl 5 Try.underlying29 size5 _ _ _ _ _ _ rfl rfl w3.heap.size 0 _ 90 hrow4 ((S.f b).map (Value.int .u8)) ?c1 ?c2 ?c3 ?c4 w3.heap.size w3 hb4 (Nat.le_refl _) ?_))
    case c1 => simp [hsx.1]
    case c2 =>
      intro hp j a hj
      obtain ⟨b', o', e, hcc⟩ := (hx3.kept hb4).cells (by omega)
      cases e
      have hjl := (List.getElem?_eq_some_iff.1 hj).1
      have := hcc j (by rw [← hsx.1]; exact hjl)
      rw [Nat.zero_add, List.getD_eq_getElem?_getD, hj] at this
      exact this
    case c3 => simp [bufL, zbuf, zer_len, hsx.1]
    case c4 => exact one_cells _
    intro w5 hg5 hb5
    have hrow5 := hg5.out
    rw [zbuf_splice (S.f b) hsx w3.heap.size b] at hrow5
    have hcw5 := hcw3.later hb5
    obtain ⟨w6, hr6, hm6, hg6⟩ := hcw5.map.update b w3.heap.size (by
      intro p hp
      obtain ⟨k, hk, rfl⟩ := List.mem_map.1 hp
      exact hno k (hsubR.subset hk)) (by omega) (by simp only [List.length_map]; omega)
    have hk6 : ∀ k, k < w5.heap.size → k ≠ mb → w6.heap[k]? = w5.heap[k]? := fun k hk hne => hg6.block k hk (by simpa using hne)
    have hlt5 := (Array.getElem?_eq_some_iff.1 hrow5).1
    have hadd := CW.add (f := ⟨b, 0, 0, w3.heap.size, S.f b⟩) hcw5 hb (fun k hk => hno k (hsubR.subset hk)) hrl hsx (by show 0 ≤ 100; omega) (Nat.le_trans hcw3.lo.1 (Nat.le_of_lt (Array.getElem?_eq_some_iff.1 hcw3.row).1))
      (fun k hk => by have := (Array.getElem?_eq_some_iff.1 (hcw3.buf k hk)).1; show ¬ k.g = w3.heap.size; omega) (hk6 c (Array.getElem?_eq_some_iff.1 hcw5.row).1 (hcw5.map_ne hcw5.row)) hm6 (fun k hk => hk6 k.g (Array.getElem?_eq_some_iff.1 (hcw5.buf k hk)).1 (hcw5.map_ne (hcw5.buf k hk)))
      ((hk6 w3.heap.size hlt5 (hcw5.map_ne hrow5)).trans hrow5)
    have c2 := hcw5.c2
    have HA := (show Hid _ from hadd)
    have hfin := (hfr3.trans (frame_of_below hb5)).trans (frame_of_grown (X := fun k => k = mb) hg6 (fun k hk => by cases hk; rfl))
    clear hadd hm6 hcw5 hcw3 hrow5 hrow4 hg5
    go_wp2_with fail
    go_ret
    first
      | exact ⟨rfl, w3.heap.size, by have := hfr3.size; omega, by rw [HE.out]; exact HA.out, hfin⟩
      | exact ⟨w3.heap.size, rfl, by have := hfr3.size; omega, by rw [HE.out]; exact HA.out, hfin⟩
  · have hfI : ¬ (C.bd : Int) ≤ (C.L.length : Int) := by omega
    have hfd : decide ((C.bd : Int) ≤ (C.L.length : Int)) = false := decide_eq_false hfI
    have hfJ : (C.L.length : Int) < (C.bd : Int) := by omega
    have hfK : decide (C.bd ≤ C.L.length) = false := decide_eq_false hfull
    clear hdel
    go_wp2_with fail
    go_quiet (fail)
    go_upto_region 10 with (first
      | (go_at_call 79; refine Calls.mono (HO.out _) ?_; rintro e w1 ⟨rfl, hb1⟩; have hb1 := (below_drewN (Below.refl w.heap.size w) nq).trans (hb1.mono (Nat.le_refl _)); have c0 := (H.out.later hb1).ci.c0)
      | (go_at_call 24; refine Calls.mono (HR.out _ hb1) ?_; rintro e w3 ⟨gx, rfl, hown, hb2⟩; have hb2 := hb1.trans (hb2.mono hb1.size)))
    have hcw3 := (H.out.later hb2).ci.toCW
    have hfr3 : Frame (fun k => k = mb) w w3 := frame_of_below hb2
    have hx3 : BI w3 (some ⟨gx, 0, none⟩) 128 (S.f b) := hown.bi (by omega) (hS.sec b).2
    have eR : room C = C.L := by unfold room; rw [if_neg hfull]
    have hsubR := List.Sublist.refl C.L
    rw [eR] at hrl
    have HE := (show Hid _ from eR)
    clear eR
    clear hown hb1
    have hz90 := zero90
    have hrow4 : (w3.alloc (.cells Try.zeroCells90 90)).heap[w3.heap.size]? = some (.cells (bufL (zbuf 0)).toArray 90 (0, 0)) := by
      rw [hz90]; exact World.alloc_heap_new w3 _
    have hb4 : Below w3.heap.size w3 (w3.alloc (.cells Try.zeroCells90 90)) := (Below.refl _ _).alloc (Nat.le_refl _) _
    have hsx := hS.sec b
    clear hlen c0 c1 c2 HO HR hz90
    go_wp2_with (first
      | (refine wpList_copy_splice rfl _ _ 29 29 rfl 5 Try.underlying29 size5 _ _ _ _ _ _ rfl rfl w3.heap.size 0 _ 90 hrow4 ((S.f b).map (Value.int .u8)) ?c1 ?c2 ?c3 ?c4 w3.heap.size w3 hb4 (Nat.le_refl _) ?_))
    case c1 => simp [hsx.1]
    case c2 =>
      intro hp j a hj
      obtain ⟨b', o', e, hcc⟩ := (hx3.kept hb4).cells (by omega)
      cases e
      have hjl := (List.getElem?_eq_some_iff.1 hj).1
      have := hcc j (by rw [← hsx.1]; exact hjl)
      rw [Nat.zero_add, List.getD_eq_getElem?_getD, hj] at this
      exact this
    case c3 => simp [bufL, zbuf, zer_len, hsx.1]
    case c4 => exact one_cells _
    intro w5 hg5 hb5
    have hrow5 := hg5.out
    rw [zbuf_splice (S.f b) hsx w3.heap.size b] at hrow5
    have hcw5 := hcw3.later hb5
    obtain ⟨w6, hr6, hm6, hg6⟩ := hcw5.map.update b w3.heap.size (by
      intro p hp
      obtain ⟨k, hk, rfl⟩ := List.mem_map.1 hp
      exact hno k (hsubR.subset hk)) (by omega) (by simp only [List.length_map]; omega)
    have hk6 : ∀ k, k < w5.heap.size → k ≠ mb → w6.heap[k]? = w5.heap[k]? := fun k hk hne => hg6.block k hk (by simpa using hne)
    have hlt5 := (Array.getElem?_eq_some_iff.1 hrow5).1
    have hadd := CW.add (f := ⟨b, 0, 0, w3.heap.size, S.f b⟩) hcw5 hb (fun k hk => hno k (hsubR.subset hk)) hrl hsx (by show 0 ≤ 100; omega) (Nat.le_trans hcw3.lo.1 (Nat.le_of_lt (Array.getElem?_eq_some_iff.1 hcw3.row).1))
      (fun k hk => by have := (Array.getElem?_eq_some_iff.1 (hcw3.buf k hk)).1; show ¬ k.g = w3.heap.size; omega) (hk6 c (Array.getElem?_eq_some_iff.1 hcw5.row).1 (hcw5.map_ne hcw5.row)) hm6 (fun k hk => hk6 k.g (Array.getElem?_eq_some_iff.1 (hcw5.buf k hk)).1 (hcw5.map_ne (hcw5.buf k hk)))
      ((hk6 w3.heap.size hlt5 (hcw5.map_ne hrow5)).trans hrow5)
    have c2 := hcw5.c2
    have HA := (show Hid _ from hadd)
    have hfin := (hfr3.trans (frame_of_below hb5)).trans (frame_of_grown (X := fun k => k = mb) hg6 (fun k hk => by cases hk; rfl))
    clear hadd hm6 hcw5 hcw3 hrow5 hrow4 hg5
    go_wp2_with fail
    go_ret
    first
      | exact ⟨rfl, w3.heap.size, by have := hfr3.size; omega, by rw [HE.out]; exact HA.out, hfin⟩
      | exact ⟨w3.heap.size, rfl, by have := hfr3.size; omega, by rw [HE.out]; exact HA.out, hfin⟩
end
end Go.Proofs.Ytliljdencaocaaa
