/- The document's Blocks: an image of bytes. -/
import Derived.Test.YtknklopohdmncaaFC
namespace Go.Proofs.Ytknklopohdmncaa
open Go.RowKit Go.Maps

/-- The kth block of some bytes. -/
def ch (xs : List Int) (k : Nat) : List Int := (xs.drop (128 * k)).take 128
/-- The first k blocks. -/
def chs (xs : List Int) (k : Nat) : List (List Int) := (List.range k).map (ch xs)

theorem chs_len (xs : List Int) (k : Nat) : (chs xs k).length = k := by simp [chs]
theorem chs_succ (xs : List Int) (k : Nat) : chs xs (k + 1) = chs xs k ++ [ch xs k] := by simp [chs, List.range_succ]
theorem ch_len {xs : List Int} {m k : Nat} (h : xs.length = 128 * m) (hk : k < m) : (ch xs k).length = 128 := by
  unfold ch
  rw [List.length_take, List.length_drop, h]
  omega
theorem ch_byt {xs : List Int} (h : Num.Byt xs) (k : Nat) : Num.Byt (ch xs k) := byt_take (byt_drop h _) _
theorem chs_get {xs : List Int} {m k : Nat} (h : k < m) : (chs xs m)[k]? = some (ch xs k) := by simp [chs, h]

/-- All blocks, one behind the other, are the bytes. -/
theorem cat_chs (xs : List Int) : ∀ k, cat (chs xs k) = xs.take (128 * k)
  | 0 => by simp [chs, cat]
  | k + 1 => by
    have ih := cat_chs xs k
    rw [chs_succ]
    unfold cat at ih ⊢
    rw [List.flatten_append, ih]
    simp only [List.flatten_cons, List.flatten_nil, List.append_nil, ch]
    rw [show 128 * (k + 1) = 128 * k + 128 by omega, List.take_add]

theorem BI.piece {w : World} {b o n : Nat} {xs : List Int} (h : BI w (some ⟨b, o, none⟩) n xs) (k : Nat) (hk : 128 * k + 128 ≤ n) : BI w (some ⟨b, o + 128 * k, none⟩) 128 (ch xs k) := (h.drop (128 * k) (by omega)).take 128 (by omega)

/-- A row of rows with one row more, which is new since the world wr. -/
theorem PI.snoc {B : Nat} {wr w1 w3 : World} {u v3 : Value} {j m : Nat} {vs : List Value} {L : List (List Int)} {p1 : Option Addr} {c1 : Nat} {xs : List Int}
    (hp : PI B wr u j vs L) (hp1 : PI B w1 u j vs L) (hB : B ≤ wr.heap.size)
    (ho1 : w1.ownsRow wr.heap.size 5 1 (.slice p1 m c1) m (xs.map (Value.int .u8))) (hm : m ≤ 140737488355328) (hx : Num.Byt xs)
    (hkeep : ∀ (u' : Value) (l : Nat) (Lx : List Value), w1.ownsRow B 5 1 u' l Lx → w3.ownsRow B 5 1 u' l Lx)
    (hown3 : w3.ownsRow B 22 1 v3 (j + 1) (vs ++ [.slice p1 m c1])) : PI B w3 v3 (j + 1) (vs ++ [.slice p1 m c1]) (L ++ [xs]) := by
  have hl := hp.vlen
  have hll := hp.len
  have ho1' : w1.ownsRow B 5 1 (.slice p1 m c1) m (xs.map (Value.int .u8)) := by
    refine ⟨ho1.1, ?_⟩
    rcases ho1.2 with h' | ⟨g', cap', cur, h', hbg, rest⟩
    · exact .inl h'
    · exact .inr ⟨g', cap', cur, h', Nat.le_trans hB hbg, rest⟩
  have hold : ∀ (i : Nat) (u : Value) (k : Nat), vs[i]? = some u → u.ownBlock = some k → k < wr.heap.size := fun i u k hu hk => by
    have hil := (List.getElem?_eq_some_iff.1 hu).1
    obtain ⟨q, m, d, eu, ho, _⟩ := hp.el i u _ hu (List.getElem?_eq_getElem (by omega))
    rw [eu] at hk
    exact (ho.lt k hk).2
  refine ⟨hown3, by rw [List.length_append, hll]; rfl, ?_, ?_⟩
  · intro i u' ys hu hy
    by_cases hi : i < j
    · rw [List.getElem?_append_left (by omega)] at hu hy
      obtain ⟨q', m', d', eu, ho, hm, hbt⟩ := hp1.el i u' ys hu hy
      exact ⟨q', m', d', eu, hkeep _ _ _ ho, hm, hbt⟩
    · rw [List.getElem?_append_right (by omega)] at hu hy
      have hi0 : i - vs.length = 0 := by have := (List.getElem?_eq_some_iff.1 hu).1; simpa using this
      rw [hi0] at hu
      rw [hll, ← hl, hi0] at hy
      simp at hu hy
      subst hu
      subst hy
      exact ⟨p1, m, c1, rfl, hkeep _ _ _ ho1', hm, hx⟩
  · intro i i' u' u'' k hu hu' hk hk'
    have key : ∀ (i : Nat) (u' : Value), (vs ++ [Value.slice p1 m c1])[i]? = some u' → u'.ownBlock = some k → (i < j ∧ k < wr.heap.size ∧ vs[i]? = some u') ∨ (i = j ∧ wr.heap.size ≤ k) := by
      intro i u' hu hk
      by_cases hi : i < j
      · rw [List.getElem?_append_left (by omega)] at hu
        exact .inl ⟨hi, hold i u' k hu hk, hu⟩
      · rw [List.getElem?_append_right (by omega)] at hu
        have hi0 : i - vs.length = 0 := by have := (List.getElem?_eq_some_iff.1 hu).1; simpa using this
        rw [hi0] at hu
        simp at hu
        subst hu
        exact .inr ⟨by omega, (ho1.lt k hk).1⟩
    rcases key i u' hu hk with ⟨a1, a2, a3⟩ | ⟨a1, a2⟩
    · rcases key i' u'' hu' hk' with ⟨b1, b2, b3⟩ | ⟨b1, b2⟩
      · exact hp1.ne i i' u' u'' k a3 b3 hk hk'
      · omega
    · rcases key i' u'' hu' hk' with ⟨b1, b2, b3⟩ | ⟨b1, b2⟩
      · omega
      · omega

theorem PI.ic {B : Nat} {w : World} {v : Value} {n : Nat} {vs : List Value} {L : List (List Int)} (h : PI B w v n vs L) (hn : n ≤ 140737488355328) : ∃ p c, v = .slice p n c ∧ IC w p n L := by
  have hl := h.vlen
  obtain ⟨p, c, e, hp⟩ := row_case h.row
  refine ⟨p, c, e, h.len, hn, fun h0 => ?_⟩
  obtain ⟨g, rfl⟩ := hp h0
  refine ⟨g, 0, rfl, fun i xs hx => ?_⟩
  have hi : i < n := by have := (List.getElem?_eq_some_iff.1 hx).1; have := h.len; omega
  have hvi : vs[i]? = some (vs[i]'(by omega)) := List.getElem?_eq_getElem _
  obtain ⟨q, m, d, eu, ho, hm, hb⟩ := h.el i _ xs hvi hx
  refine ⟨q, m, d, ?_, own_bi ho hm hb, fun e => ?_⟩
  · have hr := h.row
    rw [e] at hr
    rw [Nat.zero_add, hr.cellAt i (by omega), hvi, eu]
  · rcases ho.2 with ⟨e', _⟩ | ⟨g', cap', cur, e', _⟩
    · cases e'; rfl
    · subst e; cases e'

set_option maxRecDepth 10000 in
set_option maxHeartbeats 1000000 in
theorem rblocks_no (p : Option Addr) (n c : Nat) (w : World) (h : n = 0 ∨ n % 128 ≠ 0 ∨ 2048 < n / 128) (hn : n ≤ 140737488355328) :
    Calls Try.prog 6 #[.slice p n c] w fun e w' => e = .returned (.tuple #[.slice none 0 0, .int .i64 220]) ∧ w' = w := by
  by_cases h0 : n = 0
  · subst h0
    go_enter Try.func6, Try.ntmps6
    go_wp2
    go_ret2
    exact ⟨rfl, rfl⟩
  · have h0I : ¬ (n : Int) = 0 := by omega
    by_cases h1 : n % 128 = 0
    · have h2 : 2048 < n / 128 := by omega
      have h1I : Int.tmod (n : Int) 128 = 0 := by rw [Int.tmod_eq_emod_of_nonneg (by omega)]; omega
      have h2I : (2048 : Int) < Int.tdiv (n : Int) 128 := by rw [Int.tdiv_eq_ediv_of_nonneg (by omega)]; omega
      go_enter Try.func6, Try.ntmps6
      go_wp2
      go_ret2
      exact ⟨rfl, rfl⟩
    · have h1I : ¬ Int.tmod (n : Int) 128 = 0 := by rw [Int.tmod_eq_emod_of_nonneg (by omega)]; omega
      go_enter Try.func6, Try.ntmps6
      go_wp2
      go_ret2
      exact ⟨rfl, rfl⟩
end Go.Proofs.Ytknklopohdmncaa
