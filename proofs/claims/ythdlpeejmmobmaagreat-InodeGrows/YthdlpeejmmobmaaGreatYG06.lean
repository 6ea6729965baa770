/- Use Move Acts Fetch -/
import Derived.Test.YthdlpeejmmobmaaGreatYG05
import Derived.BigQuiet
import Derived.Deep.QuietTactic

namespace Go.Proofs.YthdlpeejmmobmaaGreat
open Go.RowKit Go.Maps
set_option maxRecDepth 100000
set_option linter.unusedVariables false
def vic (L : List Bf) : Option Bf := L.find? (fun f => f.p == 0)
def vicV (L : List Bf) : Value := match vic L with | some f => .tuple #[.int .i64 (f.b : Int), .bool true] | none => .tuple #[.int .i64 0, .bool false]
theorem Nums.shape {H : Nat} {w : World} {v : Value} {zs : List Int} (h : Nums H w v zs) : ∃ p cp, v = .slice p zs.length cp ∧ (0 < zs.length → ∃ g, p = some ⟨g, 0, none⟩ ∧ ∀ i, i < zs.length → w.cell? ⟨g, i, none⟩ = some (.int .i64 (zs.getD i 0))) := by
 rcases h.2 with ⟨e, e0⟩ | ⟨g, cap, cur, e, k⟩
 ·rw [e0]
  exact ⟨_, _, e, fun h => by omega⟩
 ·refine ⟨_, _, e, fun h0 => ⟨g, rfl, fun i hi => ?_⟩⟩
  have h' : w.ownsRow H 3 1 (.slice (some ⟨g, 0, none⟩) zs.length cap) zs.length (zs.map (Value.int .i64)) := by rw [← e]; exact h
  rw [h'.cellAt i (by omega), List.getElem?_map, List.getD_eq_getElem?_getD, List.getElem?_eq_getElem (by omega)]
  rfl
theorem ukey_ne {a b : Nat} (h : ¬ a = b) : key a ≠ key b := fun e => h (key_inj e)
theorem usk_key (a b : Nat) : (key a).sameKey (key b) = decide (a = b) := by
 by_cases h : a = b
 ·subst h
  rw [WideAt.sameKey_self (key_is a)]; simp
 ·rw [sameKey_ne (ukey_ne h)]; simp [h]
def OI (L : List Bf) (left : Lit → Bool) (a b : Value) : Prop :=
 (a = .int .i64 0 ∧ b = .bool false ∧ ∀ f ∈ L, left (key f.b) = false → ¬ f.p = 0) ∨
 ∃ f ∈ L, a = .int .i64 (f.b : Int) ∧ b = .bool true ∧ f.p = 0 ∧ ∀ k ∈ L, left (key k.b) = false → k.p = 0 → f.u ≤ k.u
theorem uvic_none {L : List Bf} (h : ∀ f ∈ L, ¬ f.p = 0) : vic L = none := by
 unfold vic
 rw [List.find?_eq_none]
 intro f hf
 simpa using h f hf
theorem vic_min : ∀ {L : List Bf}, L.Pairwise (fun f h => f.u < h.u) → ∀ {f : Bf}, f ∈ L → f.p = 0 → (∀ k ∈ L, k.p = 0 → f.u ≤ k.u) → vic L = some f
 | [], _, f, hf, _, _ => by cases hf
 | x :: L, ho, f, hf, h0, hm => by
  unfold vic
  rw [List.find?_cons]
  rcases List.mem_cons.1 hf with rfl | hf'
  ·simp [h0]
  ·by_cases hx : x.p = 0
   ·have h1 := hm x (by simp) hx
    have h2 := (List.pairwise_cons.1 ho).1 f hf'
    omega
   ·have e : (x.p == 0) = false := by simpa using hx
    rw [e]
    exact vic_min (List.pairwise_cons.1 ho).2 hf' h0 (fun k hk => hm k (by simp [hk]))
theorem usame_of_b {L : List Bf} (hd : (L.map (·.b)).Nodup) {f k : Bf} (hf : f ∈ L) (hk : k ∈ L) (e : k.b = f.b) : k = f := by
 induction L with
 | nil => cases hf
 | cons m L ih =>
  rw [List.map_cons, List.nodup_cons] at hd
  rcases List.mem_cons.1 hf with h | h
  ·rcases List.mem_cons.1 hk with h' | h'
   ·rw [h, h']
   ·exact absurd (List.mem_map.2 ⟨k, h', by rw [e, h]⟩) hd.1
  ·rcases List.mem_cons.1 hk with h' | h'
   ·exact absurd (List.mem_map.2 ⟨f, h, by rw [← e, h']⟩) hd.1
   ·exact ih hd.2 h h'
theorem left_step {left : Lit → Bool} {f k : Bf} (h : (left (key k.b) && !(key k.b).sameKey (key f.b)) = false) : left (key k.b) = false ∨ k.b = f.b := by
 rw [usk_key] at h
 cases e : left (key k.b) with
 | false => exact .inl rfl
 | true =>
  rw [e] at h
  right
  simpa using h
section
variable {L : List Bf} {left : Lit → Bool} {a b : Value} {f : Bf}
theorem OI.skip (h : OI L left a b) (hd : (L.map (·.b)).Nodup) (hf : f ∈ L) (hp : ¬ f.p = 0) : OI L (fun z => left z && !z.sameKey (key f.b)) a b := by
 rcases h with ⟨e1, e2, hn⟩ | ⟨g, hg, e1, e2, h0, hm⟩
 ·refine .inl ⟨e1, e2, fun k hk hl => ?_⟩
  rcases left_step (left := left) (f := f) (k := k) hl with h1 | h1
  ·exact hn k hk h1
  ·rw [usame_of_b hd hf hk h1]; exact hp
 ·refine .inr ⟨g, hg, e1, e2, h0, fun k hk hl hk0 => ?_⟩
  rcases left_step (left := left) (f := f) (k := k) hl with h1 | h1
  ·exact hm k hk h1 hk0
  ·rw [usame_of_b hd hf hk h1] at hk0; exact absurd hk0 hp
theorem OI.first (hn : ∀ k ∈ L, left (key k.b) = false → ¬ k.p = 0) (hd : (L.map (·.b)).Nodup) (hf : f ∈ L) (hp : f.p = 0) : OI L (fun z => left z && !z.sameKey (key f.b)) (.int .i64 (f.b : Int)) (.bool true) := by
 refine .inr ⟨f, hf, rfl, rfl, hp, fun k hk hl hk0 => ?_⟩
 rcases left_step (left := left) (f := f) (k := k) hl with h1 | h1
 ·exact absurd hk0 (hn k hk h1)
 ·rw [usame_of_b hd hf hk h1]; exact Nat.le_refl _
theorem OI.less {g : Bf} (hm : ∀ k ∈ L, left (key k.b) = false → k.p = 0 → g.u ≤ k.u) (hd : (L.map (·.b)).Nodup) (hf : f ∈ L) (hp : f.p = 0) (hu : f.u < g.u) : OI L (fun z => left z && !z.sameKey (key f.b)) (.int .i64 (f.b : Int)) (.bool true) := by
 refine .inr ⟨f, hf, rfl, rfl, hp, fun k hk hl hk0 => ?_⟩
 rcases left_step (left := left) (f := f) (k := k) hl with h1 | h1
 ·have := hm k hk h1 hk0; omega
 ·rw [usame_of_b hd hf hk h1]; exact Nat.le_refl _
theorem OI.more {g : Bf} (hm : ∀ k ∈ L, left (key k.b) = false → k.p = 0 → g.u ≤ k.u) (hd : (L.map (·.b)).Nodup) (hf : f ∈ L) (hg : g ∈ L) (hg0 : g.p = 0) (hu : ¬ f.u < g.u) : OI L (fun z => left z && !z.sameKey (key f.b)) (.int .i64 (g.b : Int)) (.bool true) := by
 refine .inr ⟨g, hg, rfl, rfl, hg0, fun k hk hl hk0 => ?_⟩
 rcases left_step (left := left) (f := f) (k := k) hl with h1 | h1
 ·exact hm k hk h1 hk0
 ·rw [usame_of_b hd hf hk h1]; omega
end
theorem ranges_dN {w : World} {r mb n : Nat} {D : DataW Unit} {left : Lit → Bool} {cnt : Nat} (h : w.ranges Tryz.prog 3 ptrR mb r n D left cnt) (q : Nat) : (w.drewN q).ranges Tryz.prog 3 ptrR mb r n D left cnt := by
 have hg : w.grownBy (w.drewN q) none := ⟨rfl, rfl, rfl, Nat.le_refl _, fun _ _ _ => rfl⟩
 exact h.kept hg (by simp) (by simp)
section
variable {B : Nat} {w : World} {c mb d N : Nat} {C : Ch}
set_option maxHeartbeats 4000000 in
theorem oldest_ok (h : CI B w c mb d N C) : Calls Tryz.prog 268 #[.pointer (some ⟨c, 0, none⟩)] w fun e w' => e = .returned (vicV C.L) ∧ Below w.heap.size w w' := by
 obtain ⟨D, ho, hs, hk, hat⟩ := h.map.ex
 have c2 := h.c2
 have HI : Hid (CI B w c mb d N C) := h
 have HK : Hid ((∀ x, has D x = true → ∃ p ∈ C.L.map bg, x = key p.1) ∧ ∀ p ∈ C.L.map bg, has D (key p.1) = true ∧ D.atKey (key p.1) nilD = adr p.2) := ⟨hk, hat⟩
 clear h hs hk hat
 go_enter Tryz.func268, Tryz.ntmps268
 go_wp2_with (at_range; refine wpList_range_own w rfl (.tmp 11) 321 rfl 3 320 keyed3 Tryz.underlying321 ptrR mb (size D) D rfl ho ?_; intro w1 hr1 hg1 hs1)
 have hb1 : Below w.heap.size w w1 := (Below.refl _ w).grown hg1 (Nat.le_refl _) (fun k hk => by cases hk)
 have HB : Hid (Below w.heap.size w w1) := hb1
 clear hg1 hs1 ho hb1
 go_frame
 go_loopw [4, 5] (fun a b wr => ∃ (left : Lit → Bool) (cnt : Nat), wr.ranges Tryz.prog 3 ptrR mb w.heap.size (size D) D left cnt ∧ OI C.L left a b ∧ Below w.heap.size w wr) (fun _ _ wr => wr.rangeLeft mb w.heap.size)
 case atStart =>
  refine ⟨_, _, hr1, .inl ⟨rfl, rfl, fun f hf hl => ?_⟩, HB.out⟩
  have := (HK.out.2 (bg f) (List.mem_map.2 ⟨f, hf, rfl⟩)).1
  rw [show key (bg f).1 = key f.b from rfl, hl] at this
  cases this
 case round =>
  clear hr1 HB
  obtain ⟨left, cnt, hrg, hoi, hbz⟩ := hrel
  have HO : Hid (OI C.L left u4 u5) := hoi
  clear hoi
  go_wp2_with (first
   | (at_next; refine wpList_next_ranges (β := Value) _ rfl _ rfl 3 keyed3 ptrR (Value.int .i64) id (fun key kl hk => by obtain ⟨x, hx, _⟩ := Maps.keyOf_int_inv Tryz.underlying3 hk; exact ⟨x, hx⟩) (fun v _ _ => ⟨v, rfl⟩) mb w.heap.size (size D) D left cnt rfl hrg ?_ ?_))
  ·intro hc0 hl0
   go_wp2_with fail
   go_ret2
   refine ⟨?_, hbz⟩
   rcases HO.out with ⟨e1, e2, hn⟩ | ⟨f, hf, e1, e2, h0, hm⟩
   ·have hv := uvic_none (L := C.L) (fun f hf => hn f hf (hl0 _))
    unfold vicV
    rw [hv, e1, e2]
    rfl
   ·have hv := vic_min HI.out.ord hf h0 (fun k hk => hm k hk (hl0 _))
    unfold vicV
    rw [hv, e1, e2]
    rfl
  ·intro xk vk kl yd yp w5 cnt5 hkey hlk hv hat2 hrg5 hlt5 hg5 hs5 hen
   obtain ⟨p, hp, rfl⟩ := HK.out.1 kl (Maps.has_true_of_atKey hat2)
   obtain ⟨f, hf, rfl⟩ := List.mem_map.1 hp
   obtain ⟨x', ex, ekl, _⟩ := Maps.keyOf_int_inv Tryz.underlying3 hkey
   obtain rfl : xk = (f.b : Int) := by cases ex; simp [key, bg] at ekl; omega
   have hvk : vk = .pointer (some ⟨f.g, 0, none⟩) := by
    have h1 := (HK.out.2 (bg f) hp).2
    have h2 := hat2 nilD
    have hv' : ptrR vk = some (yd, yp) := hv
    have e : yd = adr f.g := h2.symm.trans h1 |>.trans rfl
    rw [e] at hv'
    exact ptrR_inv hv'
   subst hvk
   have hb5 : Below w.heap.size w w5 := hbz.grown hg5 hbz.size (fun k hk => by cases hk; exact Nat.le_refl _)
   have hI5 := HI.out.later hb5
   have H5 : Hid (CI B w5 c mb d N C ∧ w5.ranges Tryz.prog 3 ptrR mb w.heap.size (size D) D (fun z => left z && !z.sameKey (key f.b)) cnt5 ∧ cnt5 < cnt ∧ Below w.heap.size w w5 ∧ w.heap.size ≤ w.heap.size) := ⟨hI5, hrg5, hlt5, hb5, Nat.le_refl _⟩
   have c25 := hI5.c2
   have k1 := hI5.toCW.pins hf
   have k2 := hI5.toCW.used hf
   have HRG : Hid (wr.ranges Tryz.prog 3 ptrR mb w.heap.size (size D) D left cnt) := hrg
   clear hv ex ekl hat2 hrg5 hlt5 hg5 hs5 hI5 hb5 hkey hlk hrg hbz hp
   have HD : Hid ((C.L.map (·.b)).Nodup) := HI.out.toCW.bnd
   by_cases hp0 : f.p = 0
   ·have k1' : w5.cell? ⟨f.g, 129, none⟩ = some (.int .i64 0) := by rw [k1, hp0]; rfl
    clear k1
    rcases HO.out with ⟨rfl, rfl, hn⟩ | ⟨g, hg, rfl, rfl, hg0, hm⟩
    ·have HNW : Hid (OI C.L (fun z => left z && !z.sameKey (key f.b)) (.int .i64 (f.b : Int)) (.bool true)) := OI.first hn HD.out hf hp0
     clear hn HO
     go_wp2_with fail
     go_quiet (fail)
     go_wp2_with fail
     go_roundw
     case rel => exact ⟨_, cnt5, ranges_dN H5.out.2.1 _, HNW.out, ⟨H5.out.2.2.2.1.os, H5.out.2.2.2.1.tape, H5.out.2.2.2.1.output, H5.out.2.2.2.1.size, H5.out.2.2.2.1.block⟩⟩
     case measure => rw [(ranges_dN H5.out.2.1 _).left_eq, HRG.out.left_eq]; exact H5.out.2.2.1
    ·have hlk : ∀ q, (Instr.lookup 321 (.map (some mb)) (.int .i64 (g.b : Int)) false).run Tryz.prog (w5.drewN q) = .ok (.pointer (some ⟨g.g, 0, none⟩)) (w5.drewN q) := fun q => (H5.out.1.later (w' := w5.drewN q) ⟨rfl, rfl, rfl, Nat.le_refl _, fun _ _ => rfl⟩).toCW.hit hg
     have k3 := H5.out.1.toCW.used hg
     by_cases hu : f.u < g.u
     ·have hd1 : decide ((f.u : Int) < (g.u : Int)) = true := decide_eq_true (by omega)
      have hd2 : decide (f.u < g.u) = true := decide_eq_true hu
      have HNW : Hid (OI C.L (fun z => left z && !z.sameKey (key f.b)) (.int .i64 (f.b : Int)) (.bool true)) := OI.less hm HD.out hf hp0 hu
      clear hm HO
      go_wp2_with fail
      go_quiet (fail)
      go_wp2_with fail
      go_roundw
      case rel => exact ⟨_, cnt5, ranges_dN H5.out.2.1 _, HNW.out, ⟨H5.out.2.2.2.1.os, H5.out.2.2.2.1.tape, H5.out.2.2.2.1.output, H5.out.2.2.2.1.size, H5.out.2.2.2.1.block⟩⟩
      case measure => rw [(ranges_dN H5.out.2.1 _).left_eq, HRG.out.left_eq]; exact H5.out.2.2.1
     ·have hd1 : decide ((f.u : Int) < (g.u : Int)) = false := decide_eq_false (by omega)
      have hd2 : decide (f.u < g.u) = false := decide_eq_false hu
      have HNW : Hid (OI C.L (fun z => left z && !z.sameKey (key f.b)) (.int .i64 (g.b : Int)) (.bool true)) := OI.more hm HD.out hf hg hg0 hu
      clear hm HO
      go_wp2_with fail
      go_quiet (fail)
      go_wp2_with fail
      go_roundw
      case rel => exact ⟨_, cnt5, ranges_dN H5.out.2.1 _, HNW.out, ⟨H5.out.2.2.2.1.os, H5.out.2.2.2.1.tape, H5.out.2.2.2.1.output, H5.out.2.2.2.1.size, H5.out.2.2.2.1.block⟩⟩
      case measure => rw [(ranges_dN H5.out.2.1 _).left_eq, HRG.out.left_eq]; exact H5.out.2.2.1
   ·have hpb : ((f.p : Int) == 0) = false := by rw [beq_eq_false_iff_ne]; omega
    have hpb2 : ¬ (f.p : Int) = 0 := by omega
    have HNW : Hid (OI C.L (fun z => left z && !z.sameKey (key f.b)) u4 u5) := HO.out.skip HD.out hf hp0
    clear HO
    go_wp2_with fail
    go_quiet (fail)
    go_wp2_with fail
    go_roundw
    case rel => exact ⟨_, cnt5, ranges_dN H5.out.2.1 _, HNW.out, ⟨H5.out.2.2.2.1.os, H5.out.2.2.2.1.tape, H5.out.2.2.2.1.output, H5.out.2.2.2.1.size, H5.out.2.2.2.1.block⟩⟩
    case measure => rw [(ranges_dN H5.out.2.1 _).left_eq, HRG.out.left_eq]; exact H5.out.2.2.1
end
section
variable {B : Nat} {w w' : World} {c mb d N : Nat} {C : Ch}
end
set_option maxHeartbeats 400000 in
theorem sclone_some (a : Addr) (n c : Nat) (xs : List Int) (w : World) (h : BI w (some a) n xs) :
  Calls Tryz.prog 124 #[.slice (some a) n c] w fun e w' => ∃ g cap, e = .returned (.slice (some ⟨g, 0, none⟩) n cap) ∧ Own w.heap.size w' g n cap xs ∧ Below w.heap.size w w' := by
 obtain ⟨i0, hi, hz0, hz1, hz2⟩ := info_parts info5
 have hbig := h.big
 have hlen := h.len
 have q22 := eqlNil
 have hb0 := (Below.refl w.heap.size w).alloc (Nat.le_refl _) (Obj.cells #[] 5)
 go_enter Tryz.func124, Tryz.ntmps124
 go_wp2_with (at_builtin; refine wpList_append_own _ rfl _ _ 42 rfl w.heap.size 5 i0 (.int .u8 0) 1 1 Tryz.underlying42 hi hz0 hz1 hz2 rfl (by decide) _ _ _ rfl (World.ownsRow_made w #[] 0 (Nat.le_refl _) (Nat.zero_le _) rfl) a n c (xs.map (Value.int .u8)) rfl ?c1 ?c2 ?c3 ?c4 ?c5 ?c6 ?_)
 case c1 => simp [hlen]
 case c2 => exact (h.kept hb0).src'
 case c3 => exact one_cells xs
 case c4 => unfold maxLen; omega
 case c5 => omega
 case c6 => simp
 intro v' w1 hown hgrow hnil
 obtain ⟨g, cap, hv, ho⟩ := own_shape hown (by first | exact hnil | (intro e; exact absurd (hnil.1 e).1 (by simp)))
 rw [hv]
 clear hown hnil
 have hb1 := hb0.grown hgrow (by simp) (by intro k hk; simp [Value.ownBlock] at hk; omega)
 go_wp2
 go_ret
 exact ⟨g, cap, rfl, ho, hb1⟩
theorem bufA_used {f : Bf} (h : Sect f.xs) (u : Nat) : (bufA f).setIfInBounds 128 (.int .i64 (u : Int)) = bufA { f with u := u } := by
 have hl := h.1
 apply Array.ext'
 simp only [bufA, bufL, Array.toList_setIfInBounds]
 rw [List.set_append_right _ _ (by simp [hl])]
 simp [hl]
section
variable {B : Nat} {w w' : World} {c mb d N : Nat} {C : Ch}
theorem buf_bi {w : World} {f : Bf} (h : w.heap[f.g]? = some (.cells (bufA f) 379 (0, 0))) (hs : Sect f.xs) : BI w (some ⟨f.g, 0, none⟩) 128 f.xs := by
 refine ⟨hs.1, by omega, hs.2, fun _ => ⟨f.g, 0, rfl, fun i hi => ?_⟩⟩
 have hl := hs.1
 have e : (bufA f)[i]? = some (.int .u8 (f.xs.getD i 0)) := by
  unfold bufA bufL
  rw [List.getElem?_toArray, List.getElem?_append_left (by simp [hl]; omega), List.getElem?_map, List.getD_eq_getElem?_getD, List.getElem?_eq_getElem (by omega)]
  rfl
 simp [World.cell?, h, e]
def rep (L : List Bf) (f : Bf) : List Bf := L.map (fun k => if k.b = f.b then f else k)
theorem mem_rep {L : List Bf} {f k : Bf} (h : k ∈ rep L f) : k = f ∨ (k ∈ L ∧ ¬ k.b = f.b) := by
 obtain ⟨m, hm, e⟩ := List.mem_map.1 h
 by_cases hb : m.b = f.b
 ·rw [if_pos hb] at e; exact .inl e.symm
 ·rw [if_neg hb] at e; subst e; exact .inr ⟨hm, hb⟩
theorem same_of_b {L : List Bf} (hd : (L.map (·.b)).Nodup) {f k : Bf} (hf : f ∈ L) (hk : k ∈ L) (e : k.b = f.b) : k = f := by
 induction L with
 | nil => cases hf
 | cons m L ih =>
  rw [List.map_cons, List.nodup_cons] at hd
  rcases List.mem_cons.1 hf with h | h
  ·rcases List.mem_cons.1 hk with h' | h'
   ·rw [h, h']
   ·exact absurd (List.mem_map.2 ⟨k, h', by rw [e, h]⟩) hd.1
  ·rcases List.mem_cons.1 hk with h' | h'
   ·exact absurd (List.mem_map.2 ⟨f, h, by rw [← e, h']⟩) hd.1
   ·exact ih hd.2 h h'
theorem ne_of_g {L : List Bf} (hd : (L.map (·.g)).Nodup) {f k : Bf} (hf : f ∈ L) (hk : k ∈ L) (e : ¬ k = f) : ¬ k.g = f.g := by
 intro e'
 induction L with
 | nil => cases hf
 | cons m L ih =>
  rw [List.map_cons, List.nodup_cons] at hd
  rcases List.mem_cons.1 hf with h | h
  ·rcases List.mem_cons.1 hk with h' | h'
   ·exact e (by rw [h, h'])
   ·exact absurd (List.mem_map.2 ⟨k, h', by rw [e', h]⟩) hd.1
  ·rcases List.mem_cons.1 hk with h' | h'
   ·exact absurd (List.mem_map.2 ⟨f, h, by rw [← e', h']⟩) hd.1
   ·exact ih hd.2 h h'
theorem rep_map {β : Type} {L : List Bf} (hd : (L.map (·.b)).Nodup) {f f' : Bf} (hf : f ∈ L) (hb : f'.b = f.b) (φ : Bf → β) (hφ : φ f' = φ f) : (rep L f').map φ = L.map φ := by
 unfold rep
 rw [List.map_map]
 apply List.map_congr_left
 intro k hk
 simp only [Function.comp]
 by_cases e : k.b = f'.b
 ·rw [if_pos e, hφ, same_of_b hd hf hk (by rw [e, hb])]
 ·rw [if_neg e]
theorem CW.rep (h : CW B w c mb d N C) {f f' : Bf} (hf : f ∈ C.L) (hb : f'.b = f.b) (hg : f'.g = f.g) (hs : Sect f'.xs) (hp : f'.p ≤ 100) (hc : w'.heap[c]? = w.heap[c]?) (hm : w'.heap[mb]? = w.heap[mb]?)
  (ho : ∀ k ∈ C.L, ¬ k.g = f.g → w'.heap[k.g]? = w.heap[k.g]?) (hn : w'.heap[f.g]? = some (.cells (bufA f') 379 (0, 0))) : CW B w' c mb d N { C with L := YthdlpeejmmobmaaGreat.rep C.L f' } := by
 have hd := h.bnd
 refine { row := hc.trans h.row, map := ?_, buf := ?_, sec := ?_, gs := ?_, ps := ?_, bs := ?_, N12 := h.N12, bd := h.bd, len := ?_, lo := ⟨h.lo.1, h.lo.2.1, ?_⟩, cnt := h.cnt }
 ·show Bm w' mb ((YthdlpeejmmobmaaGreat.rep C.L f').map bg)
  rw [rep_map hd hf hb bg (by simp [bg, hb, hg])]
  exact h.map.kept hm
 ·intro k hk
  rcases mem_rep hk with rfl | ⟨hk, hne⟩
  ·rw [hg]; exact hn
  ·rw [ho k hk (ne_of_g h.gs hf hk (fun e => hne (by rw [e, hb])))]
   exact h.buf k hk
 ·intro k hk
  rcases mem_rep hk with rfl | ⟨hk, hne⟩
  ·exact hs
  ·exact h.sec k hk
 ·show ((YthdlpeejmmobmaaGreat.rep C.L f').map (·.g)).Nodup
  rw [rep_map hd hf hb (·.g) hg]
  exact h.gs
 ·intro k hk
  rcases mem_rep hk with rfl | ⟨hk, hne⟩
  ·exact hp
  ·exact h.ps k hk
 ·intro k hk
  rcases mem_rep hk with rfl | ⟨hk, hne⟩
  ·rw [hb]; exact h.bs f hf
  ·exact h.bs k hk
 ·show (YthdlpeejmmobmaaGreat.rep C.L f').length ≤ C.bd
  simp only [YthdlpeejmmobmaaGreat.rep, List.length_map]
  exact h.len
 ·intro k hk
  rcases mem_rep hk with rfl | ⟨hk, hne⟩
  ·rw [hg]; exact h.lo.2.2 f hf
  ·exact h.lo.2.2 k hk
theorem CI.rep (h : CI B w c mb d N C) {f f' : Bf} (hf : f ∈ C.L) (hb : f'.b = f.b) (hg : f'.g = f.g) (hu : f'.u = f.u) (hs : Sect f'.xs) (hp : f'.p ≤ 100) (hc : w'.heap[c]? = w.heap[c]?) (hm : w'.heap[mb]? = w.heap[mb]?)
  (ho : ∀ k ∈ C.L, ¬ k.g = f.g → w'.heap[k.g]? = w.heap[k.g]?) (hn : w'.heap[f.g]? = some (.cells (bufA f') 379 (0, 0))) : CI B w' c mb d N { C with L := YthdlpeejmmobmaaGreat.rep C.L f' } := by
 refine { CW.rep h.toCW hf hb hg hs hp hc hm ho hn with ord := ?_, us := ?_ }
 ·have e := rep_map h.bnd hf hb (·.u) hu
  have h1 : (C.L.map (·.u)).Pairwise (· < ·) := List.pairwise_map.2 h.ord
  rw [← e] at h1
  exact List.pairwise_map.1 h1
 ·intro k hk
  rcases mem_rep hk with rfl | ⟨hk, hne⟩
  ·rw [hu]; exact h.us f hf
  ·exact h.us k hk
end
end Go.Proofs.YthdlpeejmmobmaaGreat

namespace Go.Proofs.YthdlpeejmmobmaaGreat
open Go.RowKit Go.Maps
set_option maxRecDepth 100000
set_option linter.unusedVariables false
def outb (L : List Bf) (b : Nat) : List Bf := L.filter (fun k => !(k.b == b))
theorem mem_outb {L : List Bf} {b : Nat} {k : Bf} : k ∈ outb L b ↔ k ∈ L ∧ ¬ k.b = b := by
 unfold outb
 rw [List.mem_filter]
 simp
theorem outb_perm {L : List Bf} (hd : (L.map (·.b)).Nodup) {f : Bf} (hf : f ∈ L) : (outb L f.b ++ [f]).Perm L := by
 induction L with
 | nil => cases hf
 | cons m L ih =>
  rw [List.map_cons, List.nodup_cons] at hd
  by_cases e : m.b = f.b
  ·have hm : m = f := by
    rcases List.mem_cons.1 hf with h | h
    ·exact h.symm
    ·exact absurd (List.mem_map.2 ⟨f, h, e.symm⟩) hd.1
   subst hm
   have e2 : outb (m :: L) m.b = L := by
    unfold outb
    rw [List.filter_cons]
    simp only [beq_self_eq_true, Bool.not_true, Bool.false_eq_true, if_false]
    rw [List.filter_eq_self]
    intro k hk
    have : ¬ k.b = m.b := fun e' => hd.1 (List.mem_map.2 ⟨k, hk, e'⟩)
    simpa using this
   rw [e2]
   exact List.perm_append_comm
  ·have hf' : f ∈ L := by
    rcases List.mem_cons.1 hf with h | h
    ·subst h; exact absurd rfl e
    ·exact h
   have e2 : outb (m :: L) f.b = m :: outb L f.b := by
    unfold outb
    rw [List.filter_cons]
    have : (!(m.b == f.b)) = true := by simpa using e
    rw [if_pos this]
   rw [e2]
   exact (ih hd.2 hf').cons m
theorem Bm.perm {w : World} {mb : Nat} {M M' : List (Nat × Nat)} (h : Bm w mb M) (hp : M.Perm M') : Bm w mb M' := by
 obtain ⟨D, ho, hs, hk, hat⟩ := h.ex
 refine ⟨⟨D, ho, hs.trans hp.length_eq, fun x hx => ?_, fun p hm => hat p (hp.mem_iff.2 hm)⟩, (hp.map _).nodup_iff.1 h.nd, by rw [← hp.length_eq]; exact h.sm⟩
 obtain ⟨p, hm, e⟩ := hk x hx
 exact ⟨p, hp.mem_iff.1 hm, e⟩
section
variable {B : Nat} {w w' : World} {c mb d N : Nat} {C : Ch}
theorem CW.perm (h : CW B w c mb d N C) {L' : List Bf} (hp : C.L.Perm L') : CW B w c mb d N { C with L := L' } :=
 { row := h.row, map := h.map.perm (hp.map _), buf := fun f hf => h.buf f (hp.mem_iff.2 hf), sec := fun f hf => h.sec f (hp.mem_iff.2 hf), gs := (hp.map _).nodup_iff.1 h.gs, ps := fun f hf => h.ps f (hp.mem_iff.2 hf),
   bs := fun f hf => h.bs f (hp.mem_iff.2 hf), N12 := h.N12, bd := h.bd, len := by show L'.length ≤ _; rw [← hp.length_eq]; exact h.len, lo := ⟨h.lo.1, h.lo.2.1, fun f hf => h.lo.2.2 f (hp.mem_iff.2 hf)⟩, cnt := h.cnt }
theorem CW.map_ne (h : CW B w c mb d N C) {k : Nat} {cs : Array Value} {t : TypeId} {fr : Nat × Nat} (hk : w.heap[k]? = some (.cells cs t fr)) : k ≠ mb := by
 rintro rfl
 obtain ⟨D, ⟨es, cl, ho, _⟩, _⟩ := h.map.ex
 rw [ho] at hk
 cases hk
theorem CW.row_ne (h : CW B w c mb d N C) {f : Bf} (hf : f ∈ C.L) : c ≠ f.g := by
 intro e
 have h1 := h.row
 rw [e, h.buf f hf] at h1
 simp at h1
theorem CW.turned (h : CW B w c mb d N C) {f f' : Bf} (hf : f ∈ C.L) (hb : f'.b = f.b) (hg : f'.g = f.g) (hs : Sect f'.xs) (hp : f'.p ≤ 100) (j : Nat) (v : Value) (hA : (bufA f).setIfInBounds j v = bufA f') :
  CW B (w.setCell ⟨f.g, j, none⟩ v) c mb d N { C with L := YthdlpeejmmobmaaGreat.rep C.L f' } := by
 refine h.rep hf hb hg hs hp (heap_setCell_other _ _ _ _ (h.row_ne hf)) (heap_setCell_other _ _ _ _ (h.map_ne (h.buf f hf)).symm) (fun k hk hne => heap_setCell_other _ _ _ _ hne) ?_
 rw [← hA]
 exact heap_setCell_same w f.g j _ 379 v (h.buf f hf)
theorem buf_froz (h : CW B w c mb d N C) {f : Bf} (hf : f ∈ C.L) (j : Nat) : w.frozen? ⟨f.g, j, none⟩ = false := by
 simp [World.frozen?, h.buf f hf]
theorem row_frozC (h : CW B w c mb d N C) (j : Nat) : w.frozen? ⟨c, j, none⟩ = false := by
 simp [World.frozen?, h.row]
theorem rep_perm {L : List Bf} (hd : (L.map (·.b)).Nodup) {f f' : Bf} (hf : f ∈ L) (hb : f'.b = f.b) : (YthdlpeejmmobmaaGreat.rep L f').Perm (outb L f.b ++ [f']) := by
 have hd' : ((YthdlpeejmmobmaaGreat.rep L f').map (·.b)).Nodup := by rw [rep_map hd hf hb (·.b) hb]; exact hd
 have hf' : f' ∈ YthdlpeejmmobmaaGreat.rep L f' := List.mem_map.2 ⟨f, hf, by rw [if_pos hb.symm]⟩
 have h1 := (outb_perm hd' hf').symm
 have e : outb (YthdlpeejmmobmaaGreat.rep L f') f'.b = outb L f.b := by
  unfold outb YthdlpeejmmobmaaGreat.rep
  rw [List.filter_map, hb]
  have e2 : L.filter ((fun k => !(k.b == f.b)) ∘ fun k => if k.b = f.b then f' else k) = L.filter (fun k => !(k.b == f.b)) := by
   apply List.filter_congr
   intro k hk
   simp only [Function.comp]
   by_cases e : k.b = f.b
   ·rw [if_pos e, hb, e]
   ·rw [if_neg e]
  rw [e2]
  conv => rhs; rw [← List.map_id (L.filter (fun k => !(k.b == f.b)))]
  apply List.map_congr_left
  intro k hk
  have := (List.mem_filter.1 hk).2
  rw [if_neg (by simpa using this)]
  rfl
 rw [e] at h1
 exact h1
set_option maxRecDepth 100000 in
set_option maxHeartbeats 1000000 in
theorem use_ok (h : CW B w c mb d N C) {f : Bf} (hf : f ∈ C.L) (hu : ∀ k ∈ C.L, ¬ k.b = f.b → k.u < C.hi + C.mi) (ho : (outb C.L f.b).Pairwise (fun a b => a.u < b.u)) :
  Calls Tryz.prog 205 #[.pointer (some ⟨c, 0, none⟩), .int .i64 (f.b : Int)] w fun e w' => ∃ g cap, e = .returned (.slice (some ⟨g, 0, none⟩) 128 cap) ∧ Own w.heap.size w' g 128 cap f.xs ∧
   CI B w' c mb d N { C with L := outb C.L f.b ++ [{ f with u := C.hi + C.mi }] } ∧ Frame (fun k => k = f.g) w w' := by
 have hcnt := h.cnt
 have hcw := h.turned hf (f' := { f with u := C.hi + C.mi }) rfl rfl (h.sec f hf) (h.ps f hf) 128 (.int .i64 ((C.hi + C.mi : Nat) : Int)) (bufA_used (h.sec f hf) _)
 have hci : CI B (w.setCell ⟨f.g, 128, none⟩ (.int .i64 ((C.hi + C.mi : Nat) : Int))) c mb d N { C with L := outb C.L f.b ++ [{ f with u := C.hi + C.mi }] } := by
  refine { CW.perm hcw (rep_perm h.bnd hf rfl) with ord := ?_, us := ?_ }
  ·show (outb C.L f.b ++ [_]).Pairwise _
   rw [List.pairwise_append]
   refine ⟨ho, by simp, ?_⟩
   intro a ha b hb
   simp at hb
   subst hb
   obtain ⟨h1, h2⟩ := mem_outb.1 ha
   exact hu a h1 h2
  ·intro k hk
   rcases List.mem_append.1 hk with hk | hk
   ·obtain ⟨h1, h2⟩ := mem_outb.1 hk
    have := hu k h1 h2
    show k.u ≤ C.hi + C.mi
    omega
   ·simp at hk
    subst hk
    exact Nat.le_refl _
 have hfr : Frame (fun k => k = f.g) w (w.setCell ⟨f.g, 128, none⟩ (.int .i64 ((C.hi + C.mi : Nat) : Int))) := Frame.setCell w (p := ⟨f.g, 128, none⟩) _ rfl
 have hbi : BI (w.setCell ⟨f.g, 128, none⟩ (.int .i64 ((C.hi + C.mi : Nat) : Int))) (some ⟨f.g, 0, none⟩) 128 f.xs := buf_bi (f := { f with u := C.hi + C.mi }) (hci.buf _ (by simp)) (h.sec f hf)
 rw [show ((C.hi + C.mi : Nat) : Int) = (C.hi : Int) + (C.mi : Int) by omega] at hci hfr hbi
 have c2 := h.c2
 have c3 := h.c3
 have c4 := h.c4
 have hl := h.hit hf
 have hus := h.used hf
 have hfz := buf_froz h hf 128
 have HC := (show Hid _ from hci)
 have hh0 : (0 : Int) ≤ (C.hi : Int) := by omega
 have hm0 : (0 : Int) ≤ (C.mi : Int) := by omega
 have hsum : (C.hi : Int) + (C.mi : Int) ≤ 4611686018427387904 := by omega
 have hcl := fun q => sclone_some ⟨f.g, 0, none⟩ 128 128 f.xs _ (hbi.kept (below_drewN (Below.refl _ _) q))
 have HQ := (show Hid _ from hcl)
 clear hci hcw h hbi hcl hu ho
 go_enter Tryz.func205, Tryz.ntmps205
 go_wp2_with fail
 go_region
 go_wp2_with (first | (go_at_call 124; refine Calls.mono (HQ.out 1) ?_; rintro e w2 ⟨g, cap, rfl, hown, hb2⟩))
 go_ret
 exact ⟨g, cap, rfl, hown.base (by simp), HC.out.later (below_drewN (Below.refl _ _) 1) |>.later hb2, (frame_drewN hfr 1).trans (frame_of_below hb2)⟩
end
end Go.Proofs.YthdlpeejmmobmaaGreat

namespace Go.Proofs.YthdlpeejmmobmaaGreat
open Go.RowKit Go.Maps
set_option maxRecDepth 100000
structure Ok (S : St) : Prop where
 N1 : 1 ≤ S.N
 N2 : S.N ≤ 2048
 q64 : S.q.length ≤ 64
 qok : ∀ x ∈ S.q, x.block < S.N ∧ Sect x.bytes ∧ -9223372036854775808 ≤ x.id ∧ x.id ≤ 9223372036854775807
 lok : 0 ≤ S.last ∧ S.last ≤ 9223372036854775807
 sec : ∀ b, Sect (S.f b)
 fl : ∀ b, 0 ≤ S.fl b ∧ S.fl b ≤ 1000
theorem own_ty {B : Nat} {w : World} {e : TypeId} {s n : Nat} {v : Value} {L : List Value} (h : w.ownsRow B e s v n L) {k : Nat} (hk : v.ownBlock = some k) : ∃ cs, w.heap[k]? = some (.cells cs e (0, 0)) := by
 rcases h.2 with ⟨rfl, _⟩ | ⟨g1, cap1, cur1, rfl, _, hg1, _⟩
 ·simp [Value.ownBlock] at hk
 ·simp only [Value.ownBlock, Option.some.injEq] at hk
  subst hk
  exact ⟨_, hg1⟩
section
variable {B : Nat} {w w' : World} {a mb fb : Nat} {dq : Value} {S : St}
end
section
variable {B : Nat} {w w' : World} {x : Nat} {bv qv fv : Value} {gB gQ : List (Nat × Nat)} {S : St}
end
end Go.Proofs.YthdlpeejmmobmaaGreat

namespace Go.Proofs.YthdlpeejmmobmaaGreat
open Go.RowKit Go.Maps
set_option maxRecDepth 100000
set_option linter.unusedVariables false
structure CD (B : Nat) (w : World) (c mb d dm df : Nat) (dq : Value) (C : Ch) (S : St) : Prop where
 ci : CI B w c mb d S.N C
 di : DI B w d dm df dq S
 ne : mb ≠ dm ∧ mb ≠ df
section
variable {B : Nat} {w w' : World} {c mb d dm df : Nat} {dq : Value} {C : Ch} {S : St}
theorem CW.tys {N : Nat} (h : CW B w c mb d N C) {k : Nat} (hk : cfoot c mb C k) : k = mb ∨ ∃ cs t, w.heap[k]? = some (.cells cs t (0, 0)) ∧ (t = 323 ∨ t = 379) := by
 rcases hk with rfl | rfl | ⟨f, hf, rfl⟩
 ·exact .inr ⟨_, _, h.row, .inl rfl⟩
 ·exact .inl rfl
 ·exact .inr ⟨_, _, h.buf f hf, .inr rfl⟩
theorem CW.apart {N : Nat} (h : CW B w c mb d N C) (hd : DI B w d dm df dq S) (hne : mb ≠ dm ∧ mb ≠ df) : ∀ k, cfoot c mb C k → ¬ foot d dm df dq k := by
 intro k hk hf
 obtain ⟨D, ⟨es, ck, hm, _⟩, _⟩ := hd.secs.ex
 obtain ⟨D', ⟨es', ck', hm', _⟩, _⟩ := hd.fls.ex
 obtain ⟨D2, ⟨es2, ck2, hm2, _⟩, _⟩ := h.map.ex
 rcases h.tys hk with rfl | ⟨cs, t, hc, ht⟩
 ·rcases hf with rfl | rfl | rfl | hq
  ·rw [hd.row] at hm2; cases hm2
  ·exact hne.1 rfl
  ·exact hne.2 rfl
  ·obtain ⟨cs, hc⟩ := own_ty hd.que hq
   rw [hc] at hm2; cases hm2
 ·rcases hf with rfl | rfl | rfl | hq
  ·rw [hd.row] at hc
   simp only [Option.some.injEq, Obj.cells.injEq] at hc
   rcases ht with rfl | rfl
   ·exact absurd hc.2.1 (by decide)
   ·exact absurd hc.2.1 (by decide)
  ·rw [hm] at hc; cases hc
  ·rw [hm'] at hc; cases hc
  ·obtain ⟨cs', hc'⟩ := own_ty hd.que hq
   rw [hc'] at hc
   simp only [Option.some.injEq, Obj.cells.injEq] at hc
   rcases ht with rfl | rfl
   ·exact absurd hc.2.1 (by decide)
   ·exact absurd hc.2.1 (by decide)
theorem CD.apart (h : CD B w c mb d dm df dq C S) : ∀ k, cfoot c mb C k → ¬ foot d dm df dq k := CW.apart h.ci.toCW h.di h.ne
theorem CD.later (h : CD B w c mb d dm df dq C S) (hb : Below w.heap.size w w') : CD B w' c mb d dm df dq C S := ⟨h.ci.later hb, h.di.later hb, h.ne⟩
def zbuf (g : Nat) : Bf := ⟨0, 0, 0, g, zer⟩
theorem len54 {N : Nat} (h : CW B w c mb d N C) (ty : TypeId) : (Builtin.len_ #[321] ty #[.map (some mb)]).run Tryz.prog w = .ok (.int .i64 (C.L.length : Int)) w := by
 obtain ⟨D, ho, hs, _⟩ := h.map.ex
 rw [ho.len Tryz.underlying321 ty, hs]
 simp
set_option maxRecDepth 100000 in
set_option maxHeartbeats 1000000 in
theorem fetch_pinned (h : CD B w c mb d dm df dq C S) (b : Nat) (hb : b < S.N) (hfull : C.bd ≤ C.L.length) (hv : vic C.L = none) :
  Calls Tryz.prog 206 #[.pointer (some ⟨c, 0, none⟩), .int .i64 (b : Int)] w fun e w' => e = .returned (.int .i64 60) ∧ Below w.heap.size w w' := by
 have c2 := h.ci.c2
 have c1 := h.ci.c1
 have hlen : ∀ q, (Builtin.len_ #[321] 3 #[.map (some mb)]).run Tryz.prog (w.drewN q) = .ok (.int .i64 (C.L.length : Int)) (w.drewN q) := fun q => len54 (h.ci.later (below_drewN (Below.refl _ _) q)).toCW 3
 have hfI : (C.bd : Int) ≤ (C.L.length : Int) := by omega
 have hold := fun q => oldest_ok (h.ci.later (below_drewN (Below.refl _ _) q))
 have eV : vicV C.L = .tuple #[.int .i64 0, .bool false] := by unfold vicV; rw [hv]
 rw [eV] at hold
 have HO := (show Hid _ from hold)
 clear hold h hv eV
 go_enter Tryz.func206, Tryz.ntmps206
 go_wp2_with fail
 go_quiet (fail)
 go_wp2_with (first | (go_at_call 268; refine Calls.mono (HO.out _) ?_; rintro e w1 ⟨rfl, hb1⟩))
 go_ret
 exact ⟨rfl, (below_drewN (Below.refl _ w) _).trans (hb1.mono (Nat.le_refl _))⟩
def canGo (C : Ch) : Prop := C.bd ≤ C.L.length → ∃ f, vic C.L = some f
theorem vicV_ok {L : List Bf} : ∃ x y, vicV L = .tuple #[.int .i64 x, .bool y] ∧ (y = (vic L).isSome) ∧ (∀ f, vic L = some f → x = (f.b : Int)) := by
 unfold vicV
 cases h : vic L with
 | none => exact ⟨0, false, rfl, rfl, fun f e => by cases e⟩
 | some f => exact ⟨_, true, rfl, rfl, fun k e => by cases e; rfl⟩
end
end Go.Proofs.YthdlpeejmmobmaaGreat
