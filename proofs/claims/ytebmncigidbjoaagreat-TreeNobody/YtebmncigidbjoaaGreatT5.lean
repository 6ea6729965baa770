/- A map gone through by its keys, rising: the iterator hands them on one by one. -/
import Derived.Test.YtebmncigidbjoaaGreatT4
import Derived.Shelf.SlIter.Stops
import Derived.RangeFuncNested
import Derived.RangeFuncBound
import Derived.RangeFuncCalls
import Derived.RangeFuncLeaves
import Derived.RangeFuncBox
import Derived.Shelf.Abstract
import Derived.Shelf.RegionOpen
import Derived.OwnWalkIn
import Derived.TacticsInMore
import Derived.LoopNIn
import Derived.LoopIn
import Derived.Sort.KeysCollected
namespace Go.Proofs.YtebmncigidbjoaaGreat
open Go.RowKit Go.Shelf Go.Maps Go.Sort
set_option linter.unusedVariables false
set_option maxRecDepth 100000
attribute [local go_sem] Oper.semAt_some

/-- What a round keeps: the blocks that Y names, as they are. -/
def Ky2 (Y : Nat → Obj → Prop) (W W' : World) : Prop := ∀ k o, Y k o → W.heap[k]? = some o → W'.heap[k]? = some o
theorem Ky2.refl (Y : Nat → Obj → Prop) (W : World) : Ky2 Y W W := fun _ _ _ h => h
theorem Ky2.t {Y : Nat → Obj → Prop} {A B C : World} (h : Ky2 Y A B) (k : Ky2 Y B C) : Ky2 Y A C := fun i o hy hi => k i o hy (h i o hy hi)

/-- Texts, rising. -/
def srt (ss : List (List UInt8)) : List (List UInt8) := ss.mergeSort fun x y => decide (x ≤ y)
abbrev encN (x : List UInt8 × Int) : Array Value := #[encStr x.1, .int .i64 x.2]
/-- A name's number. -/
def numOf (f : ByteArray → Option Value) (x : List UInt8) : Int := match f ⟨x.toArray⟩ with | some (.int .i64 n) => n | _ => 0
/-- The names of a map, rising, with their numbers. -/
def pairsOf (f : ByteArray → Option Value) (ss : List (List UInt8)) : List (List UInt8 × Int) := (srt ss).map fun x => (x, numOf f x)

def KeysC : Prop := ∀ (mb : Option Nat) (W : World), CallsIn Fence.wide 5 Tryz.prog 94 #[.map mb] W fun e w' => e = .returned (.func (.func 137) #[] #[.pointer (some ⟨W.heap.size, 0, none⟩)]) ∧ w' = W.alloc (.cells #[.map mb] 79)
def SortedC : Prop := ∀ (b nn : Nat) (D0 : DataW Unit) (R : Value → Option (DataW Unit × List MemPlace)) (w : World), w.ownsMap Tryz.prog 9 R b nn D0 → Maps.size D0 ≤ maxLen → Maps.size D0 * 16 ≤ 140737488355328 →
    CallsIn Fence.wide 5 Tryz.prog 93 #[.func (.func 137) #[] #[.pointer (some ⟨w.heap.size, 0, none⟩)]] (w.alloc (.cells #[.map (some b)] 79)) fun e w' => ∃ (v : Value) (ss : List (List UInt8)), e = .returned v ∧ ss.Perm (strKeys D0) ∧
      w'.ownsRow (w.alloc (.cells #[.map (some b)] 79)).heap.size 9 1 v ss.length ((srt ss).map encStr) ∧ (v = .slice none 0 0 ↔ ss = []) ∧ Below (w.alloc (.cells #[.map (some b)] 79)).heap.size (w.alloc (.cells #[.map (some b)] 79)) w'

theorem strKeys_are {w : World} {b n : Nat} {D : DataW Unit} (hown : w.ownsMap Tryz.prog 9 vR b n D) : (strKeys D).Nodup ∧ (∀ x, x ∈ strKeys D ↔ has D (.string x) = true) ∧ (strKeys D).length = Maps.size D := by
  obtain ⟨es, hD, hpw, _⟩ := hown.entries (string_keyed Tryz.underlying9)
  obtain ⟨es', hD', hko⟩ := hown.keysOf
  obtain rfl : es = es' := by rw [hD] at hD'; simpa using hD'
  subst hD
  have hk : ∀ p ∈ es, ∃ x, p.1 = .string x := fun p hp => by obtain ⟨v, hv⟩ := hko p hp; obtain ⟨x, _, hx, _⟩ := Maps.keyOf_str Tryz.underlying9 hv; exact ⟨x, hx⟩
  refine ⟨?_, fun x => ?_, ?_⟩
  · show (es.map fun p => strOf p.1).Nodup
    refine List.pairwise_map.2 (hpw.imp_of_mem fun {p q} hp' hq' hne e => hne ?_)
    obtain ⟨a, ha⟩ := hk p hp'
    obtain ⟨b, hb⟩ := hk q hq'
    rw [ha, hb] at e ⊢
    exact congrArg _ e
  · rw [has_eq, List.any_eq_true]
    show x ∈ es.map (fun p => strOf p.1) ↔ _
    rw [List.mem_map]
    constructor
    · rintro ⟨p, hp', rfl⟩
      obtain ⟨a, ha⟩ := hk p hp'
      exact ⟨p, hp', by rw [ha]; simp [Lit.sameKey, strOf]⟩
    · rintro ⟨p, hp', hs⟩
      obtain ⟨a, ha⟩ := hk p hp'
      rw [ha] at hs
      exact ⟨p, hp', by rw [ha]; simpa [Lit.sameKey, strOf] using hs⟩
  · rw [size_eq]
    show (es.map fun p => strOf p.1).length = _
    simp

/-- ss are just the keys of f. -/
structure KeysAre (f : ByteArray → Option Value) (N : Nat) (ss : List (List UInt8)) : Prop where
  nodup : ss.Nodup
  len : ss.length ≤ N
  short : ∀ x ∈ ss, x.length ≤ maxLen
  mem : ∀ x, x.length ≤ maxLen → (x ∈ ss ↔ (f ⟨x.toArray⟩).isSome = true)

theorem keysAre {w : World} {nm N : Nat} {f : ByteArray → Option Value} {D : DataW Unit} (hown : w.ownsMap Tryz.prog 9 vR nm (size D) D) (hs : size D ≤ N) (hp : ∀ k, kS.ok k → (f k = none → has D (kS.lit k) = false) ∧ ∀ v, f k = some v → has D (kS.lit k) = true ∧ ∃ d, vR v = some (d, []) ∧ ∀ z, D.atKey (kS.lit k) z = d) {ss : List (List UInt8)} (h : ss.Perm (strKeys D)) : KeysAre f N ss := by
  obtain ⟨h1, h2, h3⟩ := strKeys_are hown
  refine ⟨h.nodup_iff.2 h1, by rw [h.length_eq, h3]; exact hs, fun x hx => strKeys_le hown Tryz.underlying9 x (h.mem_iff.1 hx), fun x hx => ?_⟩
  rw [h.mem_iff, h2 x]
  have hk := hp ⟨x.toArray⟩ (show (ByteArray.mk x.toArray).size ≤ maxLen by simpa [ByteArray.size] using hx)
  have hl : kS.lit ⟨x.toArray⟩ = .string x := by simp [kS]
  rw [hl] at hk
  cases e : f ⟨x.toArray⟩ with
  | none => rw [hk.1 e]; simp
  | some v => rw [(hk.2 v e).1]; simp

/-- The slice at p has the texts L, in a row of texts of its own. -/
def Txt (W : World) (p : Option Addr) (L : List (List UInt8)) : Prop :=
  L = [] ∨ ∃ g cur, p = some ⟨g, 0, none⟩ ∧ W.heap[g]? = some (.cells cur 9 (0, 0)) ∧ cur.toList.take L.length = L.map encStr
theorem row_txt {W : World} {B : Nat} {v : Value} {ss : List (List UInt8)} (h : W.ownsRow B 9 1 v ss.length ((srt ss).map encStr)) : ∃ p c, v = .slice p ss.length c ∧ Txt W p (srt ss) := by
  have hl : (srt ss).length = ss.length := List.length_mergeSort _
  rcases h.2 with ⟨rfl, e⟩ | ⟨g, cap, cur, rfl, _, hg, _, _, _, ht⟩
  · refine ⟨none, 0, by rw [e], .inl (List.eq_nil_of_length_eq_zero (by rw [hl, e]))⟩
  · exact ⟨_, _, rfl, .inr ⟨g, cur, rfl, hg, by rw [hl]; simpa using ht⟩⟩
theorem Txt.at {W : World} {p : Option Addr} {L : List (List UInt8)} (h : Txt W p L) (j : Nat) (hj : j < L.length) : ∃ g, p = some ⟨g, 0, none⟩ ∧ W.cell? ⟨g, j, none⟩ = some (encStr (L.getD j [])) := by
  rcases h with rfl | ⟨g, cur, rfl, hg, ht⟩
  · cases hj
  · refine ⟨g, rfl, ?_⟩
    rw [cell_of_row W g j cur 9 _ hg]
    have h1 : (cur.toList.take L.length)[j]? = (L.map encStr)[j]? := by rw [ht]
    rw [List.getElem?_take_of_lt hj, List.getElem?_map, List.getElem?_eq_getElem hj] at h1
    rw [← Array.getElem?_toList, h1, List.getD_eq_getElem?_getD, List.getElem?_eq_getElem hj]
    rfl
theorem Txt.kept {W W' : World} {p : Option Addr} {L : List (List UInt8)} (h : Txt W p L) (hk : ∀ (k : Nat) (cs : Array Value), W.heap[k]? = some (Obj.cells cs 9 (0, 0)) → W'.heap[k]? = some (Obj.cells cs 9 (0, 0))) : Txt W' p L := by
  rcases h with h | ⟨g, cur, h1, h2, h3⟩
  · exact .inl h
  · exact .inr ⟨g, cur, h1, hk _ _ h2, h3⟩

theorem abides_below {β : Type} {B : Nat} {J : β → World → Prop} (hJ : AbidesFrom B J) {s : β} {W W' : World} (h : J s W) (hb : Below W.heap.size W W') : J s W' :=
  hJ s W W' none h ⟨hb.os, hb.tape, hb.output, hb.size, fun k hk _ => hb.block k hk⟩ (fun r e => by cases e)

theorem zero3 (w : World) : (zeroValue 3).run Tryz.prog w = .ok (.int .i64 0) w := by kernel_rfl

set_option maxHeartbeats 2000000 in
theorem order1_in (hK : KeysC) (hS : SortedC) (m l a nm N : Nat) (hm : 6 ≤ m) (f : ByteArray → Option Value) (Y : Nat → Obj → Prop) (hY9 : ∀ k cs fr, Y k (.cells cs 9 fr)) (hYa : ∀ o, Y a o) (hYm : ∀ o, Y nm o) (hN : N ≤ 1000000) (hfi : ∀ k v, f k = some v → ∃ n : Int, v = .int .i64 n)
    (J Jx : List (List UInt8 × Int) → World → Prop)
    (hY : ∀ pre x W, J pre W → pre.length < N → YieldAt Fence.wide (m - 1) Tryz.prog l (encN x) W fun e W' =>
      (e = .returned (.bool true) ∧ J (pre ++ [x]) W' ∧ Ky2 Y W W') ∨ (e = .returned (.bool false) ∧ Jx (pre ++ [x]) W'))
    (W : World) (hJ : AbidesFrom W.heap.size J)
    (ha : Boxed W a 79 (.map (some nm))) (hM : Mf kS W nm N f) (h0 : J [] W) :
    CallsIn Fence.wide m Tryz.prog 109 #[.func (.yield l) #[] #[], .pointer (some ⟨a, 0, none⟩)] W fun e' W' => (∃ v, e' = .returned v) ∧
      ((∃ ys, (∃ ss, KeysAre f N ss ∧ ys = pairsOf f ss) ∧ J ys W') ∨ (∃ pre : List (List UInt8 × Int), True ∧ Jx pre W')) := by
  have h1 : 1 ≤ m := by omega
  have hf94 : Fence.wide.fn 94 := trivial
  have hf93 : Fence.wide.fn 93 := trivial
  refine callsIn_of_wp Tryz.func109 rfl trivial ?_ rfl
  simp only [Tryz.ntmps109, List.size_toArray, List.length_cons, List.length_nil, Nat.reduceAdd, Nat.reduceSub, Array.replicate_succ, Array.replicate_zero, List.push_toArray, List.append_toArray, List.nil_append, List.cons_append]
  have hca := ha.cell
  obtain ⟨D, hown, hsz, hp⟩ := hM
  have hmx : maxLen = 9223372036854775807 ∨ 1000000 ≤ maxLen := by right; unfold maxLen; omega
  have hcS := hS nm _ D vR W hown (by rcases hmx with h | h <;> omega) (by omega)
  obtain ⟨WA, hWA⟩ : ∃ WA, W.alloc (.cells #[.map (some nm)] 79) = WA := ⟨_, rfl⟩
  have hbA : Below W.heap.size W WA := by rw [← hWA]; exact (Below.refl _ W).alloc (Nat.le_refl _) _
  have hsA : WA.heap.size = W.heap.size + 1 := by rw [← hWA]; simp
  rw [hWA] at hcS
  have hKc := hK (some nm) W
  rw [hWA] at hKc
  gi_wp2_with (first
    | (gi_at_call 94; refine (callsIn_wide.2 (callsIn_wide.1 hKc)).mono ?_; rintro e w' ⟨rfl, hw'⟩; subst w')
    | (gi_at_call 93; refine (callsIn_wide.2 (callsIn_wide.1 hcS)).mono ?_; rintro e w' ⟨v, ss, rfl, hperm, hrow, hnil, hb⟩; obtain ⟨p, c, hv, hrs⟩ := row_txt hrow; obtain ⟨n, hn⟩ : ∃ n, n = ss.length := ⟨_, rfl⟩; rw [← hn] at hv; subst hv; clear hrow hnil; have hrow0 := True.intro; have HN := (show Hid _ from hn); clear hn))
  have hlen : (srt ss).length = n := (List.length_mergeSort _).trans HN.out.symm
  have hKA := keysAre hown hsz hp hperm
  have hnN : n ≤ N := by rw [HN.out]; exact hKA.len
  have hW' : Below W.heap.size W w' := hbA.trans (hb.mono (by omega))
  have ha' : Boxed w' a 79 (.map (some nm)) := (hW'.block _ ha.lt).trans ha
  have hM' : Mf kS w' nm N f := Mf.kept ⟨D, hown, hsz, hp⟩ (hW'.block _ hown.lt)
  have hJ' : J [] w' := abides_below hJ h0 hW'
  have HK : Hid (KeysAre f N ss) := hKA
  have HS : Hid (∃ ss : List (List UInt8), KeysAre f N ss) := ⟨ss, hKA⟩
  obtain ⟨L, hL⟩ : ∃ L, L = srt ss := ⟨_, rfl⟩
  rw [← hL] at hrs hlen
  have HL := (show Hid _ from hL)
  have hLm : ∀ x ∈ L, x.length ≤ maxLen ∧ (f ⟨x.toArray⟩).isSome = true := fun x hx => by
    have hx' : x ∈ ss := by rw [hL] at hx; exact (List.mergeSort_perm _ _).mem_iff.1 hx
    exact ⟨hKA.short x hx', (hKA.mem x (hKA.short x hx')).1 hx'⟩
  have HLM := (show Hid _ from hLm)
  clear hL hLm hKA hcS hKc hown hsz hp hperm hW' hb hbA hsA hca ha h0 hWA hrow0
  gi_loopw [9] (fun i wr => ∃ j : Nat, i = .int .i64 (j : Int) ∧ j ≤ n ∧ J ((L.take j).map fun x => (x, numOf f x)) wr ∧ Txt wr p L ∧ Boxed wr a 79 (.map (some nm)) ∧ Mf kS wr nm N f)
    (fun i _ => n - (intOf i).toNat)
  case atStart => exact ⟨0, rfl, Nat.zero_le _, by simpa using hJ', hrs, ha', hM'⟩
  case round =>
    obtain ⟨j, rfl, hj, hJs, hT, hB, hMr⟩ := hrel
    by_cases hlt : j < n
    · have hI : (j : Int) < (n : Int) := by omega
      have hj0 : (0 : Int) ≤ (j : Int) := by omega
      obtain ⟨g, rfl, hcell⟩ := hT.at j (by omega)
      obtain ⟨x, hx⟩ : ∃ x, x = L.getD j [] := ⟨_, rfl⟩
      rw [← hx] at hcell
      have hxm : x ∈ L := by rw [hx, List.getD_eq_getElem?_getD, List.getElem?_eq_getElem (by omega)]; exact List.getElem_mem _
      obtain ⟨hxl, hxs⟩ := HLM.out x hxm
      obtain ⟨v, hv⟩ := Option.isSome_iff_exists.1 hxs
      obtain ⟨num, rfl⟩ := hfi _ _ hv
      have hnum : numOf f x = num := by unfold numOf; rw [hv]
      have hget := hMr.get (t := 79) (e := 3) Tryz.underlying79 (z := .int .i64 0) (zd := .lit (.int .i64 0)) (zero3 wr) rfl ⟨x.toArray⟩ (show (ByteArray.mk x.toArray).size ≤ maxLen by simpa [ByteArray.size] using hxl)
      rw [hv] at hget
      simp only [Option.getD_some] at hget
      have hcb := hB.cell
      have hout := hY _ (x, num) wr hJs (by simp; omega)
      have HX : Hid ((L.take (j + 1)).map (fun x => (x, numOf f x)) = (L.take j).map (fun x => (x, numOf f x)) ++ [(x, num)]) := by
        show _ = _
        rw [List.take_add_one, List.map_append, List.getElem?_eq_getElem (by omega)]
        have : L[j] = x := by rw [hx, List.getD_eq_getElem?_getD, List.getElem?_eq_getElem (by omega)]; rfl
        simp [this, hnum]
      obtain ⟨fn, tmps, assign, body, hy, hR⟩ := hout
      dsimp only [encN] at hy
      clear hnum hxs hxm hx hv
      simp only [kS] at hget
      gi_wp2
      refine hR.mono ?_
      rintro e3 W3 (⟨rfl, hJ3, hk3⟩ | ⟨rfl, hJx3⟩)
      · gi_wp2
        go_roundw
        case rel =>
          refine ⟨j + 1, by go_num, by omega, ?_, hT.kept fun k cs hc => hk3 k _ (hY9 _ _ _) hc, hk3 _ _ (hYa _) hB, ?_⟩
          · rw [HX.out]; exact hJ3
          · obtain ⟨es, ck, hes⟩ := hMr.isMap
            exact hMr.kept ((hk3 _ _ (hYm _) hes).trans hes.symm)
        case measure => simp [intOf]; omega
      · gi_wp2
        refine bodyPost_ret (results_none rfl _ _ _) rfl ?_
        exact ⟨⟨_, rfl⟩, .inr ⟨_, trivial, hJx3⟩⟩
    · have hI : ¬ (j : Int) < (n : Int) := by omega
      obtain rfl : j = n := by omega
      gi_wp2
      go_end0
      refine ⟨⟨_, rfl⟩, .inl ⟨_, ⟨ss, HK.out, rfl⟩, ?_⟩⟩
      unfold pairsOf
      rw [← HL.out]
      rw [List.take_of_length_le (by omega)] at hJs
      exact hJs

theorem order_stops (hK : KeysC) (hS : SortedC) (m a nm N : Nat) (hm : 6 ≤ m) (f : ByteArray → Option Value) (Y : Nat → Obj → Prop) (hY9 : ∀ k cs fr, Y k (.cells cs 9 fr)) (hYa : ∀ o, Y a o) (hYm : ∀ o, Y nm o) (hN : N ≤ 1000000) (hfi : ∀ k v, f k = some v → ∃ n : Int, v = .int .i64 n)
    (w : World) (ha : Boxed w a 79 (.map (some nm))) (hM : Mf kS w nm N f) :
    SeqStopsK Fence.wide m Tryz.prog 109 #[.pointer (some ⟨a, 0, none⟩)] encN (Ky2 Y) (fun ys => ∃ ss, KeysAre f N ss ∧ ys = pairsOf f ss) (fun _ => True) N w :=
  fun l J Jx W hW hJ _ hY h0 => order1_in hK hS m l a nm N hm f Y hY9 hYa hYm hN hfi J Jx hY W hJ ((hW.block _ ha.lt).trans ha) (hM.kept (hW.block _ hM.lt)) h0

set_option maxHeartbeats 400000 in
theorem inOrder_in (n : Nat) (mb : Option Nat) (w : World) : CallsIn Fence.wide n Tryz.prog 59 #[.map mb] w fun e w' => e = .returned (.func (.func 109) #[] #[.pointer (some ⟨w.heap.size, 0, none⟩)]) ∧ w' = w.alloc (.cells #[.map mb] 79) := by
  refine callsIn_of_wp Tryz.func59 rfl trivial ?_ rfl
  simp only [Tryz.ntmps59, List.size_toArray, List.length_cons, List.length_nil, Nat.reduceAdd, Nat.reduceSub, Array.replicate_succ, Array.replicate_zero, List.push_toArray, List.append_toArray, List.nil_append, List.cons_append]
  gi_wp2
  go_ret
  exact ⟨rfl, rfl⟩
end Go.Proofs.YtebmncigidbjoaaGreat
