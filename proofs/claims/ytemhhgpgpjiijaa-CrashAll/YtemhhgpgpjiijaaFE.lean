/- Images compared; a list of images gone through. -/
import Derived.Test.YtemhhgpgpjiijaaFD
namespace Go.Proofs.Ytemhhgpgpjiijaa
open Go.RowKit Go.Maps
set_option linter.unusedVariables false

theorem bit_div (K i : Nat) : (K / 2 ^ i % 2 = 1) ↔ K.testBit i = true := by
  rw [Nat.testBit_eq_decide_div_mod_eq]; simp

theorem sb_congr (ns : List Int) {K K' : Nat} : ∀ n, (∀ i, i < n → K.testBit i = K'.testBit i) → sb ns K n = sb ns K' n
  | 0, _ => rfl
  | n + 1, h => by
    rw [sb, sb, sb_congr ns n (fun i hi => h i (by omega))]
    have e : (K / 2 ^ n % 2 = 1) = (K' / 2 ^ n % 2 = 1) := propext (by rw [bit_div, bit_div, h n (by omega)])
    simp only [e]

theorem sb_mod (ns : List Int) (K n : Nat) : sb ns K n = sb ns (K % 2 ^ n) n :=
  sb_congr ns n (fun i hi => by rw [Nat.testBit_mod_two_pow]; simp [hi])

theorem sb_full (ns : List Int) (n : Nat) (hn : n ≤ ns.length) : ∀ j, j ≤ n → sb ns (2 ^ n - 1) j = ns.take j
  | 0, _ => rfl
  | j + 1, hj => by
    rw [sb, sb_full ns n hn j (by omega), if_pos ((bit_div _ _).2 (by rw [Nat.testBit_two_pow_sub_one]; simp; omega)), List.take_add_one, List.getElem?_eq_getElem (by omega)]
    rw [List.getD_eq_getElem?_getD, List.getElem?_eq_getElem (by omega)]
    rfl

/-- Images, each of N blocks, in a row. -/
structure Als (B : Nat) (w : World) (g cv M N : Nat) (F : Nat → Nat → List Int) : Prop where
  ex : ∃ vs, w.ownsRow B 22 1 (.slice (some ⟨g, 0, none⟩) M cv) M vs ∧ ∀ k, k < M → ∃ gk gs, vs[k]? = some (iv gk N) ∧ Img B w gk N gs (F k)
  byt : ∀ k i, Num.Byt (F k i)
  n2 : N ≤ 2048

theorem Als.later {B g cv M N : Nat} {w w' : World} {F : Nat → Nat → List Int} (h : Als B w g cv M N F) (hb : Below w.heap.size w w') : Als B w' g cv M N F := by
  obtain ⟨vs, hr, he⟩ := h.ex
  refine ⟨⟨vs, ownsRow_kept hr (fun k hk => hb.block k (hr.lt k hk).2), fun k hk => ?_⟩, h.byt, h.n2⟩
  obtain ⟨gk, gs, h1, h2⟩ := he k hk
  exact ⟨gk, gs, h1, h2.kept (fun i _ hi => hb.block i hi)⟩

theorem Als.at {B g cv M N : Nat} {w : World} {F : Nat → Nat → List Int} (h : Als B w g cv M N F) {k : Nat} (hk : k < M) : ∃ gk, w.cell? ⟨g, k, none⟩ = some (.slice (some ⟨gk, 0, none⟩) N N) ∧ IB w (some ⟨gk, 0, none⟩) N (imgL (F k) N) := by
  obtain ⟨vs, hr, he⟩ := h.ex
  obtain ⟨gk, gs, h1, h2⟩ := he k hk
  have hvl : vs.length = M := by have := hr.1; simpa using this
  exact ⟨gk, by rw [World.ownsRow.cellAt hr k (by omega), h1]; rfl, h2.ib h.n2 (fun i _ => h.byt k i)⟩

set_option maxHeartbeats 1000000 in
theorem fn13_ok {B : Nat} {w : World} {a mb fb : Nat} {qv : Value} {S : St} (h : DI B w a mb fb qv S) (bx : Nat) (hc : w.cell? ⟨bx, 0, none⟩ = some (.pointer (some ⟨a, 0, none⟩))) (p : Option Addr) (n c : Nat) (L : List (List Int)) (hI : IB w p n L) :
    Calls Try.prog 13 #[.slice p n c, .pointer (some ⟨bx, 0, none⟩)] w fun e w' => e = .returned (.bool (L == imgL S.f S.N)) ∧ Below w.heap.size w w' := by
  have hN := h.N2
  have HB : Hid (∀ i, Num.Byt (S.f i)) := fun i => (h.secs.all i).2
  have CI := (show Hid _ from image_ok h)
  clear h
  go_enter Try.func13, Try.ntmps13
  go_wp2_with fail
  refine Calls.mono CI.out ?_
  clear CI
  rintro e w1 ⟨g, gs, rfl, him, hb⟩
  have CS := (show Hid _ from sameImage_ok p (some ⟨g, 0, none⟩) n c S.N S.N L _ w1 (hI.kept hb) (him.ib hN (fun i _ => HB.out i)))
  clear him
  go_wp2_with fail
  refine same_at CS.out ?_
  clear CS
  go_wp2
  go_ret
  exact ⟨rfl, hb⟩

set_option maxRecDepth 10000 in
set_option maxHeartbeats 1000000 in
theorem indexFn_ok {B : Nat} {w : World} {a mb fb : Nat} {qv : Value} {S : St} (h : DI B w a mb fb qv S) (bx : Nat) (hc : w.cell? ⟨bx, 0, none⟩ = some (.pointer (some ⟨a, 0, none⟩))) {B' g cv M N : Nat} {F : Nat → Nat → List Int} (hA : Als B' w g cv M N F) (hM : M ≤ 4096) (hex : ∃ k, k < M ∧ (imgL (F k) N == imgL S.f S.N) = true) :
    Calls Try.prog 36 #[.slice (some ⟨g, 0, none⟩) M cv, .func (.func 13) #[] #[.pointer (some ⟨bx, 0, none⟩)]] w fun e w' => ∃ i : Nat, e = .returned (.int .i64 (i : Int)) ∧ Below w.heap.size w w' := by
  have hcf : ∀ (args : Array Value) (w : World), (callFunc 13 args).run Try.prog w = .ok (.enter 13 args) w := fun _ _ => by kernel_rfl
  have hbl := lt_of_cell hc
  have HEX := (show Hid _ from hex)
  have HH := (show Hid _ from h)
  clear hex h
  go_enter Try.func36, Try.ntmps36
  go_wp2_with fail
  go_loopw [8] (fun i wr => ∃ j : Nat, j ≤ M ∧ i = .int .i64 (j : Int) ∧ (∀ k, k < j → (imgL (F k) N == imgL S.f S.N) = false) ∧ Below w.heap.size w wr) (fun i _ => M - (intOf i).toNat)
  case atStart => exact ⟨0, by omega, rfl, by intro k hk; omega, Below.refl _ _⟩
  case round =>
    obtain ⟨j, hj, rfl, hno, hb⟩ := hrel
    have HNO := (show Hid _ from hno)
    clear hno
    by_cases hlt : j < M
    · obtain ⟨gk, hcell, hib⟩ := (hA.later hb).at hlt
      have hjI : (j : Int) < (M : Int) := by omega
      have CF := (show Hid _ from fn13_ok (HH.out.later hb) bx ((hb.cell (p := ⟨bx, 0, none⟩) hbl).trans hc) (some ⟨gk, 0, none⟩) N N _ hib)
      obtain ⟨t, ht⟩ : ∃ t, (imgL (F j) N == imgL S.f S.N) = t := ⟨_, rfl⟩
      rw [ht] at CF
      have HT := (show Hid _ from ht)
      clear ht hib
      go_wp2_with fail
      refine Calls.mono CF.out ?_
      clear CF
      rintro e w1 ⟨rfl, hb1⟩
      have hb1' := hb.trans (hb1.mono hb.size)
      cases t with
      | true =>
        go_wp2
        go_ret
        exact ⟨j, rfl, hb1'⟩
      | false =>
        go_wp2
        go_roundw
        case rel =>
          refine ⟨j + 1, by omega, by go_num, ?_, hb1'⟩
          intro k hk
          by_cases e : k = j
          · subst e; exact HT.out
          · exact HNO.out k (by omega)
        case measure => simp [intOf]; omega
    · exfalso
      obtain ⟨k, hk, he⟩ := HEX.out
      rw [HNO.out k (by omega)] at he
      cases he

set_option maxHeartbeats 1000000 in
theorem containsFn_ok {B : Nat} {w : World} {a mb fb : Nat} {qv : Value} {S : St} (h : DI B w a mb fb qv S) (bx : Nat) (hc : w.cell? ⟨bx, 0, none⟩ = some (.pointer (some ⟨a, 0, none⟩))) {B' g cv M N : Nat} {F : Nat → Nat → List Int} (hA : Als B' w g cv M N F) (hM : M ≤ 4096) (hex : ∃ k, k < M ∧ (imgL (F k) N == imgL S.f S.N) = true) :
    Calls Try.prog 12 #[.slice (some ⟨g, 0, none⟩) M cv, .func (.func 13) #[] #[.pointer (some ⟨bx, 0, none⟩)]] w fun e w' => e = .returned (.bool true) ∧ Below w.heap.size w w' := by
  have CI := (show Hid _ from indexFn_ok h bx hc hA hM hex)
  clear h hc hA hex
  go_enter Try.func12, Try.ntmps12
  go_wp2_with fail
  refine Calls.mono CI.out ?_
  clear CI
  rintro e w1 ⟨i, rfl, hb⟩
  go_wp2
  go_ret
  exact ⟨ret_bool (by simp), hb⟩
end Go.Proofs.Ytemhhgpgpjiijaa
