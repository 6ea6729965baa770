/- 'both': a cache of the program and one of the document, over such disks. -/
import Derived.Test.YtliljdencaocaaaTwo
namespace Go.Proofs.Ytliljdencaocaaa
open Go.RowKit Go.Maps
set_option linter.unusedVariables false

/-- The disk behind so many rounds: block b has b + 1 in all its bytes. -/
def Sb (K : Nat) : Nat → St
  | 0 => ⟨K, fun _ => zer, [], 0, fun _ => 0⟩
  | b + 1 => (aDone (aWrite (Sb K b) (b : Int) 128 (List.replicate 128 ((b : Int) + 1))).2.2 ((b : Int) + 1) true).2
theorem Sb_last (K b : Nat) : (Sb K b).last ≤ b := by
  induction b with
  | zero => exact Int.le_refl _
  | succ b ih =>
    show (aDone _ _ _).2.last ≤ _
    rw [aDone_last]
    have := aWrite_last (Sb K b) (b : Int) 128 (List.replicate 128 ((b : Int) + 1))
    omega

theorem aWrite_N (S : St) (b : Int) (n : Nat) (xs : List Int) : (aWrite S b n xs).2.2.N = S.N := by
  unfold aWrite
  split
  · rfl
  · split
    · rfl
    · split <;> rfl
theorem aDone_N (S : St) (id : Int) (ok : Bool) : (aDone S id ok).2.N = S.N := by
  unfold aDone
  split
  · rfl
  · split <;> rfl
theorem Sb_N (K b : Nat) : (Sb K b).N = K := by
  induction b with
  | zero => rfl
  | succ b ih =>
    show (aDone _ _ _).2.N = K
    rw [aDone_N, aWrite_N, ih]
/-- What 'both' answers. -/
def BoR (blocks bnd : Int) (w : World) (e : Ending) (w' : World) : Prop :=
  ∃ (K a x : Nat), 1 ≤ K ∧ K ≤ 12 ∧ (K : Int) = 1 + wrap64 ((IntKind.u64.wrap blocks).tmod 12) ∧ Below w.heap.size w w' ∧
    (((bnd < 1 ∨ 64 < bnd) ∧ e = .returned (.tuple #[.pointer none, .pointer none, .pointer (some ⟨a, 0, none⟩), .pointer (some ⟨x, 0, none⟩), .bool true])) ∨
      ∃ (n c mc y dm df : Nat) (dq bv qv fv : Value) (gB gQ : List (Nat × Nat)), bnd = (n : Int) ∧ 1 ≤ n ∧ n ≤ 64 ∧ e = .returned (.tuple #[.pointer (some ⟨c, 0, none⟩), .pointer (some ⟨y, 0, none⟩), .pointer (some ⟨a, 0, none⟩), .pointer (some ⟨x, 0, none⟩), .bool true]) ∧
        CD w.heap.size w' c mc a dm df dq ⟨n, 0, 0, []⟩ (Sb K K) ∧ RI w.heap.size w' x bv qv fv gB gQ (Sb K K) ∧ RC w.heap.size w' y x (.slice none 0 0) [] ⟨n, 0, 0, []⟩)

set_option maxRecDepth 100000 in
set_option maxHeartbeats 2000000 in
theorem both_ok (blocks bnd : Int) (w : World) : Calls Try.prog 8 #[.int .i64 blocks, .int .i64 bnd] w (BoR blocks bnd w) := by
  obtain ⟨k0, hk0, ek, ek1⟩ := twelve_mod blocks
  obtain ⟨K, hK⟩ : ∃ K, K = 1 + k0 := ⟨_, rfl⟩
  have eK : 1 + (k0 : Int) = (K : Int) := by omega
  have hK1 : 1 ≤ K := by omega
  have hK2 : K ≤ 12 := by omega
  have hn := new_ok K (by omega) (by omega) w
  have hrn := fun w1 => rnew_ok K (by omega) (by omega) w1
  clear hK
  go_enter Try.func8, Try.ntmps8
  go_wp2_with (first
    | (go_at_call 30; refine Calls.mono hn ?_; rintro e w1 ⟨a, mb, fb, rfl, hd, hb1⟩)
    | (go_at_call 31; refine Calls.mono (hrn w1) ?_; rintro e w2 ⟨x, bv, fv, gB, rfl, hr, hb2⟩))
  have hT : Tw w.heap.size w2 a mb fb (.slice none 0 0) x bv (.slice none 0 0) fv gB [] (Sb K 0) := ⟨hd.later hb2, hr.base hb1.size⟩
  have hb2' : Below w.heap.size w w2 := hb1.trans (hb2.mono hb1.size)
  clear hd hr hn hrn hb1 hb2
  go_loopw [44] (fun i wr => ∃ (b : Nat) (dq qv : Value) (gB gQ : List (Nat × Nat)), b ≤ K ∧ i = .int .i64 (b : Int) ∧ Tw w.heap.size wr a mb fb dq x bv qv fv gB gQ (Sb K b) ∧ Below w.heap.size w wr) (fun i _ => K - (intOf i).toNat)
  case atStart => exact ⟨0, _, _, _, _, by omega, rfl, hT, hb2'⟩
  case round =>
    clear hT hb2'
    obtain ⟨b, dq, qv, gB, gQ, hbK, rfl, hT, hbw⟩ := hrel
    by_cases hlt : b < K
    · have hI : (b : Int) < (K : Int) := by omega
      have hb0 : (0 : Int) ≤ (b : Int) := by omega
      have hb1 : (b : Int) + 1 < 256 := by omega
      have hlast := Sb_last K b
      have HS : Hid (Sb K (b + 1) = (aDone (aWrite (Sb K b) (b : Int) 128 (List.replicate 128 ((b : Int) + 1))).2.2 ((b : Int) + 1) true).2) := rfl
      have hbx : BI (wr.alloc (.cells #[.int .u8 ((b : Int) + 1)] 5)) (some ⟨wr.heap.size, 0, none⟩) 1 [(b : Int) + 1] := by
        refine ⟨rfl, by omega, fun i => by cases i <;> simp <;> omega, fun _ => ⟨wr.heap.size, 0, rfl, fun i hi => ?_⟩⟩
        obtain rfl : i = 0 := by omega
        exact (Boxed.new wr 5 _).cell
      have hrep := repeat_ok ((b : Int) + 1) (by omega) ⟨wr.heap.size, 0, none⟩ 1 _ hbx
      have hbA : Below wr.heap.size wr (wr.alloc (.cells #[.int .u8 ((b : Int) + 1)] 5)) := (Below.refl _ wr).alloc (Nat.le_refl _) _
      have hlB : (Sb K b).last < 9223372036854775807 := by omega
      go_wp2_with (first
        | (go_at_call 22; refine Calls.mono hrep ?_; rintro e w3 ⟨g, rfl, hg, hbi, ⟨gc, hgc⟩, hb3⟩; have hb3 : Below wr.heap.size wr w3 := hbA.trans (hb3.mono (by simp)); have hT3 := hT.later hb3; have hbw3 := hbw.trans (hb3.mono hbw.size); have hW := dWrite hT3.d hbw3.size (b : Int) _ 128 128 _ hbi hlB)
        | (go_at_call 32; refine Calls.mono hW ?_; rintro e w4 ⟨dq4, rfl, hd4, hf4, _⟩; have hr4 := d_keeps_r hT3.d hT3.r hf4; have hbw4 := hbw3.trans (d_below hT3.d hbw3.size hf4); have hgl := (Array.getElem?_eq_some_iff.1 hgc).1; have hbi4 := hbi.block (hf4.block g hgl (hT3.d.notin hgc (by decide) (by decide))); have hX := rWrite hr4 hT3.d.ok hbw4.size (b : Int) _ 128 128 _ hbi4 hlB)
        | (go_at_call 33; refine Calls.mono hX ?_; rintro e w5 ⟨qv5, gQ5, rfl, hr5, hf5, _, _⟩; have hd5 := r_keeps_d hd4 hr4 hf5; have hbw5 := hbw4.trans (r_below hr4 hbw4.size hf5); have hY := dDone hd5 ((b : Int) + 1) true)
        | (go_at_call 34; refine Calls.mono hY ?_; rintro e w6 ⟨dq6, rfl, hd6, hf6, _⟩; have hr6 := d_keeps_r hd5 hr5 hf6; have hbw6 := hbw5.trans (d_below hd5 hbw5.size hf6); have hZ := rDone hr6 hd5.ok hbw6.size ((b : Int) + 1) true)
        | (go_at_call 35; refine Calls.mono hZ ?_; rintro e w7 ⟨qv7, gB7, gQ7, rfl, hr7, hf7, _, _⟩; have hd7 := r_keeps_d hd6 hr6 hf7; have hbw7 := hbw6.trans (r_below hr6 hbw6.size hf7)))
      go_roundw
      case rel => exact ⟨b + 1, dq6, qv7, gB7, gQ7, by omega, by go_num, ⟨by rw [HS.out]; exact hd7, by rw [HS.out]; exact hr7⟩, hbw7⟩
      case measure => simp [intOf]; omega
    · obtain rfl : b = K := by omega
      have hHB := hbw.size
      have HK : Hid ((b : Int) = 1 + wrap64 ((IntKind.u64.wrap blocks).tmod 12)) := by show _ = _; rw [ek, eK]
      by_cases hbad : bnd < 1 ∨ 64 < bnd
      · have h1 := cnew_arg hT.d bnd hbad
        have h2 := rcnew_arg (x := x) (w := wr) bnd hbad
        have HB := (show Hid _ from hbad)
        clear hbad
        go_wp2_with (first
          | (go_at_call 27; refine same_at h1 ?_)
          | (go_at_call 36; refine same_at h2 ?_))
        refine bodyPost_ret (results_tmp5 rfl _ _ _) rfl ?_
        exact ⟨b, a, x, hK1, hK2, HK.out, hbw, .inl ⟨HB.out, rfl⟩⟩
      · obtain ⟨n, rfl⟩ : ∃ n : Nat, bnd = (n : Int) := ⟨bnd.toNat, by omega⟩
        have h1 := cnew_ok hT.d hHB n (by omega) (by rw [Sb_N]; omega)
        have h2 := fun w3 (hw : w.heap.size ≤ w3.heap.size) => rcnew_ok (B := w.heap.size) (w := w3) (x := x) hw n (by omega)
        have hn64 : 1 ≤ n ∧ n ≤ 64 := by omega
        clear hbad
        go_wp2_with (first
          | (go_at_call 27; refine Calls.mono h1 ?_; rintro e w8 ⟨c, mc, rfl, _, _, hcd, hb8⟩; have hbw8 := hbw.trans (hb8.mono hHB))
          | (go_at_call 36; refine Calls.mono (h2 w8 hbw8.size) ?_; rintro e w9 ⟨y, rfl, _, hrc, hb9⟩))
        refine bodyPost_ret (results_tmp5 rfl _ _ _) rfl ?_
        exact ⟨b, a, x, hK1, hK2, HK.out, hbw8.trans (hb9.mono hbw8.size), .inr ⟨n, c, mc, y, mb, fb, dq, bv, qv, fv, gB, gQ, rfl, hn64.1, hn64.2, rfl, hcd.later hb9, (hT.r.later hb8).later hb9, hrc⟩⟩
end Go.Proofs.Ytliljdencaocaaa
