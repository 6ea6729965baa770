/- What the laws ask for, in one form: plans, numbers, bytes. -/
import Derived.Test.YteapkfnklbhdfaaStp
import Derived.Test.YteapkfnklbhdfaaAwake
namespace Go.Proofs.Yteapkfnklbhdfaa
open Go.RowKit Go.Maps
set_option linter.unusedVariables false

theorem Byt.bytesOf_inj : ∀ {xs ys : List Int}, Num.Byt xs → Num.Byt ys → Lib.bytesOf xs = Lib.bytesOf ys → xs = ys := by
  intro xs ys hx hy h
  have hl : xs.length = ys.length := by rw [← Lib.bytesOf_length, ← Lib.bytesOf_length ys, h]
  refine List.ext_getElem hl (fun i h1 h2 => ?_)
  have e : (Lib.bytesOf xs)[i]? = (Lib.bytesOf ys)[i]? := by rw [h]
  unfold Lib.bytesOf at e
  rw [List.getElem?_map, List.getElem?_map, List.getElem?_eq_getElem h1, List.getElem?_eq_getElem h2] at e
  have e2 : UInt8.ofNat xs[i].toNat = UInt8.ofNat ys[i].toNat := Option.some.inj e
  have hx1 := hx i
  have hy1 := hy i
  rw [List.getD_eq_getElem?_getD, List.getElem?_eq_getElem h1] at hx1
  rw [List.getD_eq_getElem?_getD, List.getElem?_eq_getElem h2] at hy1
  have e3 := congrArg UInt8.toNat e2
  simp only [UInt8.toNat_ofNat'] at e3
  simp at hx1 hy1
  omega

theorem BI.bytesIn {w : World} {p : Option Addr} {n : Nat} {xs : List Int} (h : BI w p n xs) : Lib.BytesIn w p n xs := by
  exact h.cells

theorem beq_ok {w : World} {p q : Option Addr} {n m c d : Nat} {xs ys : List Int} (hx : BI w p n xs) (hy : BI w q m ys) :
    Calls Try.prog 22 #[.slice p n c, .slice q m d] w fun e w' => e = .returned (.bool (xs == ys)) ∧ w' = w := by
  have h := sh_bytes_Equal_all p q n c m d xs ys w hx.len hy.len hx.bytesIn hy.bytesIn
  have e : (Lib.bytesOf xs == Lib.bytesOf ys) = (xs == ys) := by
    by_cases hh : xs = ys
    · subst hh; simp
    · rw [beq_eq_false_iff_ne.2 hh, beq_eq_false_iff_ne.2 (fun k => hh (Byt.bytesOf_inj hx.byt hy.byt k))]
  rw [← e]
  exact h

theorem pst_byt (P : List Pv) : ∀ (l : List Pv) (s : List Int × List Int), (∀ p ∈ l, Num.Byt p.bs) → Num.Byt s.2 → Num.Byt (pst P l s).2
  | [], s, _, h => h
  | p :: l, s, hl, h => by
    refine pst_byt P l _ (fun q hq => hl q (List.mem_cons_of_mem _ hq)) ?_
    dsimp only
    unfold nextO
    split
    · exact h
    · unfold ovr
      exact byt_append (byt_append (byt_take h _) (hl p List.mem_cons_self)) (byt_drop h _)
theorem ovrs_byt : ∀ (l : List Pv) (xs : List Int), (∀ p ∈ l, Num.Byt p.bs) → Num.Byt xs → Num.Byt (ovrs l xs)
  | [], _, _, h => h
  | p :: l, xs, hl, h => by
    refine ovrs_byt l _ (fun q hq => hl q (List.mem_cons_of_mem _ hq)) ?_
    unfold ovr
    exact byt_append (byt_append (byt_take h _) (hl p List.mem_cons_self)) (byt_drop h _)

/-- What Plan tells. -/
def plB (s : List Int × List Int) : List Int := if s.1 = [] then [] else s.2
def plE (s : List Int × List Int) : Int := if s.1 = [] then 71 else 0
def plnOf (P : List Pv) (b : Int) (xs : List Int) : List Int × List Int := pst P (ofB P b) ([], xs)

theorem idOf_i64 {B : Nat} {w : World} {a mp mb last : Nat} {P : List Pv} {K : Int → Option Value} (h : PS B w a mp mb last P K) {x : Int} {p : Pv} (hp : p ∈ P) (e : (p.id : Int) = x) : I64 x := by
  have := h.ids p hp
  have := h.sml
  subst e
  exact ⟨by omega, by omega⟩
theorem pl_len {B : Nat} {w : World} {a mp mb last : Nat} {P : List Pv} {K : Int → Option Value} (h : PS B w a mp mb last P K) (b : Int) (xs : List Int) : (plnOf P b xs).1.length ≤ 1000 := by
  refine Nat.le_trans (nodup_len last _ ?_ (fun x hx => ?_)) h.sml
  · exact pst_nodup P _ _ List.nodup_nil (List.Pairwise.filter _ h.srt) (fun x hx => by cases hx)
  · rcases (pst_closed P (ofB P b) ([], xs)).2 x hx with h' | ⟨q, hq, e, r⟩
    · cases h'
    · have := h.ids q (mem_ofB.1 hq).1
      omega
theorem pl_i64 {B : Nat} {w : World} {a mp mb last : Nat} {P : List Pv} {K : Int → Option Value} (h : PS B w a mp mb last P K) (b : Int) (xs : List Int) : ∀ x ∈ (plnOf P b xs).1, 1 ≤ x ∧ x ≤ (last : Int) := fun x hx => by
  rcases (pst_closed P (ofB P b) ([], xs)).2 x hx with h' | ⟨q, hq, e, r⟩
  · cases h'
  · have := h.ids q (mem_ofB.1 hq).1
    omega

theorem plan2_ok {B : Nat} {w : World} {a mp mb last : Nat} {P : List Pv} {K : Int → Option Value} (h : PS B w a mp mb last P K) (b : Int) (hb : I64 b) (p : Option Addr) (c : Nat) (xs : List Int) (hx : BI w p 128 xs) :
    Calls Try.prog 18 #[.pointer (some ⟨a, 0, none⟩), .int .i64 b, .slice p 128 c] w fun e w' => ∃ ob on oc ib im ic, e = .returned (.tuple #[.slice ob on oc, .slice ib im ic, .int .i64 (plE (plnOf P b xs))]) ∧ BI w' ob on (plB (plnOf P b xs)) ∧ II w' ib im (plnOf P b xs).1 ∧ (∀ g, blkOf ob = some g → w.heap.size ≤ g) ∧ (∀ g, blkOf ib = some g → w.heap.size ≤ g) ∧ Below w.heap.size w w' := by
  refine (plan_ok h b hb p c xs hx).mono ?_
  rintro e w' ⟨ov, iv, er, rfl, hbw, HR⟩
  have hl := pl_len h b xs
  have hi := pl_i64 h b xs
  have hsm := h.sml
  have hby : Num.Byt (plnOf P b xs).2 := pst_byt P _ _ (fun p hp => (h.byt p (mem_ofB.1 hp).1).1.byt) hx.byt
  rcases HR.out with ⟨h1, rfl, rfl, rfl⟩ | ⟨h1, rfl, ⟨g, cap, rfl, hO⟩, hN⟩
  · have h1' : (plnOf P b xs).1 = [] := h1
    refine ⟨none, 0, 0, none, 0, 0, ?_, ?_, ?_, (fun g hg => by cases hg), (fun g hg => by cases hg), hbw⟩
    · unfold plE; rw [if_pos h1']
    · unfold plB; rw [if_pos h1']; exact ⟨rfl, by omega, (fun i => by simp), fun h => by omega⟩
    · rw [h1']; exact ⟨rfl, by omega, (fun x hx => by cases hx), fun h => by omega⟩
  · have h1' : (plnOf P b xs).1 ≠ [] := h1
    obtain ⟨q, d, rfl, hII, hpl⟩ := hN.ii (by have : (pst P (ofB P b) ([], xs)).1.length ≤ 1000 := hl; omega) (fun x hx => by have := hi x hx; exact ⟨by omega, by omega⟩)
    refine ⟨some ⟨g, 0, none⟩, 128, cap, q, _, d, ?_, ?_, hII, fun g' hg => ?_, fun g' hg => ?_, hbw⟩
    · unfold plE; rw [if_neg h1']
    · unfold plB; rw [if_neg h1']; exact hO.bi (by omega) hby
    · have := hO.spot.1
      have e : g = g' := Option.some.inj hg
      omega
    · rcases hpl with rfl | ⟨b', o', rfl⟩
      · cases hg
      · have e : b' = g' := Option.some.inj hg
        subst e
        rcases hN.2 with ⟨h', _⟩ | ⟨g2, cap2, cur, h', hbg, _⟩
        · cases h'
        · injection h' with h' _ _
          injection h' with h'
          injection h' with h' _ _
          omega

theorem of2_ok {B : Nat} {w : World} {a mp mb last : Nat} {P : List Pv} {K : Int → Option Value} (h : PS B w a mp mb last P K) (b : Int) (hb : I64 b) : Calls Try.prog 27 #[.pointer (some ⟨a, 0, none⟩), .int .i64 b] w fun e w' => ∃ q m d, e = .returned (.slice q m d) ∧ II w' q m (idsOf P b) ∧ Below w.heap.size w w' := by
  refine (of_ok h b hb).mono ?_
  rintro e w' ⟨v, rfl, hN, hbw⟩
  have hlen : (idsOf P b).length ≤ 1000 := by
    rw [idsOf_eq, List.length_map]
    refine Nat.le_trans (List.length_filter_le _ _) (Nat.le_trans h.len h.sml)
  obtain ⟨q, d, rfl, hII, hpl⟩ := hN.ii (by omega) (fun x hx => by
    rw [idsOf_eq, List.mem_map] at hx
    obtain ⟨p, hp, e⟩ := hx
    exact idOf_i64 h (mem_ofB.1 hp).1 e)
  exact ⟨q, _, d, rfl, hII, hbw⟩

theorem sadd_none {B : Nat} {w : World} {a mp mb last : Nat} {P : List Pv} {K : Int → Option Value} (h : PS B w a mp mb last P K) (hsm : last + 1 ≤ 1000) (b o : Int) (hb : I64 b) (p : Option Addr) (n c : Nat) (xs : List Int) (hx : BI w p n xs) :
    Calls Try.prog 36 #[.pointer (some ⟨a, 0, none⟩), .int .i64 b, .int .i64 o, .slice p n c, .slice none 0 0] w fun e w' => ∃ i j, e = .returned (.tuple #[.int .i64 i, .int .i64 j]) ∧
      ∃ l' P' K', PS B w' a mp mb l' P' K' ∧ Stp (dm a mp mb P K) (dm a mp mb P' K') w w' ∧ ((l' = last ∧ P' = P) ∨ ∃ pn, l' = last + 1 ∧ P' = P ++ [pn] ∧ pn.id = last + 1) := by
  by_cases hm : mayAt b o n
  · obtain ⟨bl, rfl⟩ := Int.eq_ofNat_of_zero_le hm.1
    obtain ⟨of, rfl⟩ := Int.eq_ofNat_of_zero_le hm.2.1
    have hII : II w none 0 [] := ⟨rfl, by omega, (fun x hx => by cases hx), fun h => by omega⟩
    have hpl := h.len
    have hs := h.sml
    refine (sadd_ok h hsm bl of (by have := hb.2; omega) p n c xs hx hm none 0 0 [] hII rfl (by omega)).mono ?_
    rintro e w' ⟨rfl, pn, K', f1, f2, f3, f4, f5, hPS, hSt⟩
    exact ⟨_, _, rfl, _, _, _, hPS, hSt, .inr ⟨pn, rfl, rfl, f1⟩⟩
  · refine (sadd_arg h b o p n c hx.big (.slice none 0 0) hm).mono ?_
    rintro e w' ⟨rfl, rfl⟩
    exact ⟨_, _, rfl, _, _, _, h, Stp.refl _ _, .inl ⟨rfl, rfl⟩⟩

theorem made_zero (n : Nat) : (madeCells (Value.int .u8 0).cells (n * 1)).toList = List.replicate n (Value.int .u8 0) := by
  refine List.ext_getElem ?_ ?_
  · simp [madeCells]
  · intro i h1 h2
    simp [madeCells, Value.cells, Nat.mod_one]
/-- A block of noughts. -/
def zz : List Int := List.replicate 128 0
theorem zeros_ok (w : World) : ∃ Z, (Instr.makeSlice 29 (.int .i64 128) (.int .i64 128)).run Try.prog w = .ok (.slice (some ⟨w.heap.size, 0, none⟩) 128 128) (w.alloc (.cells Z 5)) ∧ BI (w.alloc (.cells Z 5)) (some ⟨w.heap.size, 0, none⟩) 128 zz := by
  obtain ⟨i0, hi, hz0, hz1, hz2⟩ := info_parts info5
  have h := run_makeSlice (P := Try.prog) w 29 5 i0 (.int .u8 0) Try.underlying29 hi hz0 .i64 .i64 128 128 (by omega) (by omega) (by rw [hz1]; decide) (by rw [hz2]; decide) (by omega)
  rw [hz1] at h
  obtain ⟨Z, hZ⟩ : ∃ Z, Z = madeCells (Value.int .u8 0).cells ((128 : Int).toNat * 1) := ⟨_, rfl⟩
  rw [← hZ] at h
  unfold zz
  refine ⟨Z, h, by simp, by omega, fun i => ?_, fun _ => ⟨_, 0, rfl, fun i hi => ?_⟩⟩
  · rw [List.getD_eq_getElem?_getD, List.getElem?_replicate]
    split <;> simp
  · rw [Nat.zero_add, cell_of_row _ _ i _ 5 _ (at_new rfl)]
    have e : Z.toList = List.replicate 128 (Value.int .u8 0) := by rw [hZ]; exact made_zero 128
    rw [← Array.getElem?_toList, e, List.getElem?_replicate, if_pos hi, List.getD_eq_getElem?_getD, List.getElem?_replicate, if_pos hi]
    rfl
end Go.Proofs.Yteapkfnklbhdfaa
