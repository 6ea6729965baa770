/- WordBack: a number that was put into bytes is read back as it was, and no other byte has turned, whatever the bytes, the place, the width and the number are. -/
import Derived.Test.YtkmijjipnepnoabMem
namespace Go.Proofs.Ytkmijjipnepnoab
open Go.RowKit

theorem BI.drawn {w : World} {p : Option Addr} {n : Nat} {xs : List Int} (h : BI w p n xs) (q : Nat) : BI (w.drewN q) p n xs := h.kept (below_drewN (Below.refl _ _) q)

theorem Own.room {B : Nat} {w : World} {g n cap : Nat} {xs : List Int} (h : Own B w g n cap xs) : n ≤ cap ∧ cap ≤ 9223372036854775807 := by
  rcases h.2 with ⟨h', _⟩ | ⟨g', cap', cur, h', _, _, h1, h2, _⟩
  · simp at h'
  · simp only [Value.slice.injEq, Option.some.injEq, Addr.mk.injEq, and_true, true_and] at h'
    obtain ⟨rfl, rfl⟩ := h'
    unfold maxLen at h2
    exact ⟨h1, h2⟩

theorem getD_take (xs : List Int) (m i : Nat) (h : i < m) : (xs.take m).getD i 0 = xs.getD i 0 := by
  simp [List.getD_eq_getElem?_getD, h]

theorem getD_drop' (xs : List Int) (m i : Nat) : (xs.drop m).getD i 0 = xs.getD (m + i) 0 := by
  simp [List.getD_eq_getElem?_getD, List.getElem?_drop]

theorem byt_take {xs : List Int} (h : Num.Byt xs) (m : Nat) : Num.Byt (xs.take m) := by
  intro i
  by_cases hi : i < m
  · rw [getD_take xs m i hi]; exact h i
  · rw [List.getD_eq_getElem?_getD, List.getElem?_eq_none (by simp; omega)]; simp

theorem byt_drop {xs : List Int} (h : Num.Byt xs) (m : Nat) : Num.Byt (xs.drop m) := by
  intro i
  rw [getD_drop']; exact h _

theorem BI.take {w : World} {p : Option Addr} {n : Nat} {xs : List Int} (h : BI w p n xs) (m : Nat) (hm : m ≤ n) : BI w p m (xs.take m) := by
  refine ⟨by rw [List.length_take, h.len]; omega, by have := h.big; omega, byt_take h.byt m, fun h0 => ?_⟩
  obtain ⟨b, o, rfl, hc⟩ := h.cells (by omega)
  exact ⟨b, o, rfl, fun i hi => by rw [getD_take xs m i hi]; exact hc i (by omega)⟩

theorem BI.drop {w : World} {b o : Nat} {n : Nat} {xs : List Int} (h : BI w (some ⟨b, o, none⟩) n xs) (m : Nat) (hm : m ≤ n) : BI w (some ⟨b, o + m, none⟩) (n - m) (xs.drop m) := by
  refine ⟨by rw [List.length_drop, h.len], by have := h.big; omega, byt_drop h.byt m, fun h0 => ?_⟩
  obtain ⟨b', o', e, hc⟩ := h.cells (by omega)
  cases e
  exact ⟨b, o + m, rfl, fun i hi => by rw [getD_drop', Nat.add_assoc]; exact hc _ (by omega)⟩

theorem BI.cut {w : World} {b o : Nat} {n : Nat} {xs : List Int} (h : BI w (some ⟨b, o, none⟩) n xs) (m c : Nat) (hm : m ≤ n) (hc : n ≤ c) : BI w (if c = m then some ⟨b, o, none⟩ else some ⟨b, o + m, none⟩) (n - m) (xs.drop m) := by
  have hd := h.drop m hm
  by_cases e : c = m
  · rw [if_pos e]
    exact ⟨hd.len, hd.big, hd.byt, fun h0 => by omega⟩
  · rw [if_neg e]; exact hd

theorem ext_getD {xs ys : List Int} (hl : xs.length = ys.length) (h : ∀ i, i < xs.length → xs.getD i 0 = ys.getD i 0) : xs = ys := by
  apply List.ext_getElem hl
  intro i h1 h2
  have := h i h1
  simpa [List.getD_eq_getElem?_getD, List.getElem?_eq_getElem h1, List.getElem?_eq_getElem h2] using this

theorem put_take (xs : List Int) (a k : Nat) (v : Int) : (Num.putTo xs a v k).take a = xs.take a := by
  apply ext_getD (by simp [Num.putTo_length])
  intro i hi
  have : i < a := by simp at hi; omega
  rw [getD_take _ _ _ this, getD_take _ _ _ this, Num.putTo_out _ _ _ _ _ (by omega)]

theorem put_drop (xs : List Int) (a k : Nat) (v : Int) : (Num.putTo xs a v k).drop (a + k) = xs.drop (a + k) := by
  apply ext_getD (by simp [Num.putTo_length])
  intro i hi
  rw [getD_drop', getD_drop', Num.putTo_out _ _ _ _ _ (by omega)]

theorem equal_same (p q : Option Addr) (n c m d : Nat) (xs : List Int) (w : World) (h : BI w p n xs) (k : BI w q m xs) :
    Calls Try.prog 68 #[.slice p n c, .slice q m d] w fun e w' => e = .returned (.bool true) ∧ w' = w :=
  (equal_any p q n c m d xs xs w h k).mono fun e w' ⟨he, hw⟩ => ⟨by rw [he]; simp, hw⟩

end Go.Proofs.Ytkmijjipnepnoab
