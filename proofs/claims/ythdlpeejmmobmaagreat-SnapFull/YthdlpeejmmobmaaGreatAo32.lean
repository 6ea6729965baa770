/- C7 C2 C1 C3 C4 C5 C6 -/
import Derived.Test.YthdlpeejmmobmaaGreatAo04
import Derived.Test.YthdlpeejmmobmaaGreatAo31
import Derived.Test.YthdlpeejmmobmaaGreatAo27
import Derived.Test.YthdlpeejmmobmaaGreatAo24
import Derived.Deep.MidRow
import Derived.Laws.MakeOwn
import Derived.WalkMore
import Derived.Deep.LoopGhost

namespace Go.Proofs.YthdlpeejmmobmaaGreat
open Go.RowKit Go.Maps
set_option linter.unusedVariables false

theorem zero4 (w : World) : (zeroValue 4).run Tryz.prog w = .ok (.bool false) w := by kernel_rfl
/-- A bool as a datum. -/
def boolR (v : Value) : Option (DataW Unit × List MemPlace) := match v with | .bool b => some (.lit (.bool b), []) | _ => none
theorem boolR_inv {v : Value} {b : Bool} {ps : List MemPlace} (h : boolR v = some (.lit (.bool b), ps)) : v = .bool b := by
  unfold boolR at h
  split at h
  · simp at h; rw [h.1]
  · cases h
/-- Block mb is a set of n numbers: those of S. -/
def NSet (w : World) (mb n : Nat) (S : Nat → Bool) : Prop :=
  ∃ D, w.ownsMap Tryz.prog 3 boolR mb (size D) D ∧ size D = n ∧ ∀ b, b < 9223372036854775808 → has D (key b) = S b ∧ D.atKey (key b) (.lit (.bool false)) = .lit (.bool (S b))
theorem nset_made (w : World) : NSet (w.alloc (.map #[] 0)) w.heap.size 0 (fun _ => false) :=
  ⟨.map [], w.ownsMap_made _ _ _, rfl, fun b _ => ⟨by simp [has], rfl⟩⟩
theorem NSet.kept {w w' : World} {mb n : Nat} {S : Nat → Bool} (h : NSet w mb n S) (hb : w'.heap[mb]? = w.heap[mb]?) : NSet w' mb n S := by
  obtain ⟨D, ⟨es, c, ho, r⟩, h2⟩ := h
  exact ⟨D, ⟨es, c, hb.trans ho, r⟩, h2⟩
theorem NSet.lt {w : World} {mb n : Nat} {S : Nat → Bool} (h : NSet w mb n S) : mb < w.heap.size := by
  obtain ⟨D, ho, _⟩ := h
  exact ho.lt
theorem NSet.look {w : World} {mb n : Nat} {S : Nat → Bool} (h : NSet w mb n S) (b : Nat) (hb : b < 9223372036854775808) :
    (Instr.lookup 48 (.map (some mb)) (.int .i64 (b : Int)) false).run Tryz.prog w = .ok (.bool (S b)) w := by
  obtain ⟨D, ho, _, hat⟩ := h
  obtain ⟨u, ps, hr, hv⟩ := ho.lookup keyed3 Tryz.underlying48 (zero4 w) (zd := .lit (.bool false)) (zp := []) rfl (key_of hb)
  rw [(hat b hb).2] at hv
  rw [hr, boolR_inv hv]
theorem NSet.len {w : World} {mb n : Nat} {S : Nat → Bool} (h : NSet w mb n S) (ty : TypeId) : (Builtin.len_ #[48] ty #[.map (some mb)]).run Tryz.prog w = .ok (.int .i64 (n : Int)) w := by
  obtain ⟨D, ho, hs, _⟩ := h
  rw [ho.len Tryz.underlying48 ty, hs]
theorem NSet.add {w : World} {mb n : Nat} {S : Nat → Bool} (h : NSet w mb n S) (hn : n < 100000) (b : Nat) (hb : b < 9223372036854775808) :
    ∃ w', (Instr.mapUpdate 48 (.map (some mb)) (.int .i64 (b : Int)) (.bool true)).run Tryz.prog w = .ok () w' ∧ NSet w' mb (if S b then n else n + 1) (upd S b true) ∧ w.grownBy w' (some mb) := by
  obtain ⟨D, ho, hs, hat⟩ := h
  obtain ⟨w', hr, ho', hg⟩ := ho.update keyed3 Tryz.underlying48 (show size D < maxLen by unfold maxLen; omega) (val := .bool true) (key_of hb) (d := .lit (.bool true)) (ps := []) rfl
  refine ⟨w', hr, ⟨_, tight ho', ?_, ?_⟩, hg⟩
  · rw [size_put (ho.tidy keyed3), hs, (hat b hb).1]
  · intro y hy
    unfold upd
    by_cases e : y = b
    · subst e
      rw [if_pos rfl, has_put_same ho.isMap (key_is y), atKey_put_same ho.isMap (key_is y)]
      exact ⟨rfl, rfl⟩
    · rw [if_neg e, has_put_other (fun h => e (key_inj h)), atKey_put_other (fun h => e (key_inj h))]
      exact hat y hy
theorem NSet.del {w : World} {mb n : Nat} {S : Nat → Bool} (h : NSet w mb n S) (b : Nat) (hb : b < 9223372036854775808) (ty : TypeId) :
    ∃ w', (Builtin.delete_ #[48, 3] ty #[.map (some mb), .int .i64 (b : Int)]).run Tryz.prog w = .ok (.tuple #[]) w' ∧ (∃ n', n' ≤ n ∧ NSet w' mb n' (upd S b false)) ∧ w.grownBy w' (some mb) := by
  obtain ⟨D, ho, hs, hat⟩ := h
  obtain ⟨w', hr, ho', hg⟩ := ho.drop keyed3 Tryz.underlying48 (key_of hb) ty
  refine ⟨w', hr, ⟨size (D.del (key b)), ?_, ⟨_, tight ho', rfl, ?_⟩⟩, hg.grown⟩
  · have := size_del (k := key b) (ho.tidy keyed3)
    omega
  · intro y hy
    unfold upd
    by_cases e : y = b
    · subst e
      rw [if_pos rfl, has_del_same, atKey_del_same]
      exact ⟨rfl, rfl⟩
    · rw [if_neg e, has_del_other (fun h => e (key_inj h)), atKey_del_other (fun h => e (key_inj h))]
      exact hat y hy
theorem wpList_add_nset (w : World) {ops : Array Oper} {rest : List Oper} {o : Oper} {a : Act} {Q : Exit → Act → World → Prop}
    (hg : o.guard = none) (m x v : Operand) (hop : o.op = Op.mapUpdate 48 m x v) {mb n : Nat} {S : Nat → Bool} (h : NSet w mb n S) (hn : n < 100000) (b : Nat) (hb : b < 9223372036854775808)
    (hm : a.eval m = .map (some mb)) (hx : a.eval x = .int .i64 (b : Int)) (hv : a.eval v = .bool true)
    (hK : ∀ w', NSet w' mb (if S b then n else n + 1) (upd S b true) → w.grownBy w' (some mb) → wpList Tryz.prog ops Q rest (a.put o.dst undef) w') :
    wpList Tryz.prog ops Q (o :: rest) a w := by
  refine wpList_plain hg fun K' hK' => ?_
  obtain ⟨w', hrun, r1, r2⟩ := h.add hn b hb
  unfold Oper.wp
  simp [execOp, hop, hm, hx, hv, hrun, Result.andThen]
  exact hK' _ _ (hK w' r1 r2)
theorem wpList_del_nset (w : World) {ops : Array Oper} {rest : List Oper} {o : Oper} {a : Act} {Q : Exit → Act → World → Prop}
    (hg : o.guard = none) (m x : Operand) (hop : o.op = Op.call { callee := Callee.builtin Builtin.delete, args := #[m, x], argTypes := #[48, 3] }) {mb n : Nat} {S : Nat → Bool} (h : NSet w mb n S) (b : Nat) (hb : b < 9223372036854775808)
    (hm : a.eval m = .map (some mb)) (hx : a.eval x = .int .i64 (b : Int))
    (hK : ∀ w' n', n' ≤ n → NSet w' mb n' (upd S b false) → w.grownBy w' (some mb) → wpList Tryz.prog ops Q rest (a.put o.dst (.tuple #[])) w') :
    wpList Tryz.prog ops Q (o :: rest) a w := by
  refine wpList_plain hg fun K' hK' => ?_
  obtain ⟨w', hrun, ⟨n', r0, r1⟩, r2⟩ := h.del b hb o.type
  unfold Oper.wp
  simp [execOp, hop, resolve, invoke, builtin, hm, hx, hrun, Result.andThen]
  exact hK' _ _ (hK w' n' r0 r1 r2)
end Go.Proofs.YthdlpeejmmobmaaGreat

namespace Go.Proofs.YthdlpeejmmobmaaGreat
open Go.RowKit Go.Maps
open Mk.Al (putY rowOf fN eN lo zc)
set_option maxRecDepth 100000
set_option linter.unusedVariables false

/-- How many of k bits from f on are not set. -/
def zn (p : Nat → Bool) (f : Nat) : Nat → Nat
  | 0 => 0
  | k + 1 => zn p f k + if p (f + k) then 0 else 1
theorem zn_le (p : Nat → Bool) (f : Nat) : ∀ k, zn p f k ≤ k
  | 0 => Nat.le_refl _
  | k + 1 => by
    have := zn_le p f k
    simp only [zn]
    split <;> omega
theorem zc_zn (xs : List Int) (f : Nat) : ∀ k, zc xs f (f + k) = (zn (Mk.Bit.on xs) f k : Int)
  | 0 => by simp [zc, zn]
  | k + 1 => by
    have ih := zc_zn xs f k
    unfold zc at ih ⊢
    have hc : Mk.Bit.count xs (f + (k + 1)) = Mk.Bit.count xs (f + k) + (if Mk.Bit.on xs (f + k) then 1 else 0) := rfl
    have hz : zn (Mk.Bit.on xs) f (k + 1) = zn (Mk.Bit.on xs) f k + (if Mk.Bit.on xs (f + k) then 0 else 1) := rfl
    rw [hc, hz]
    cases Mk.Bit.on xs (f + k) <;> simp <;> omega
theorem zn_congr {p q : Nat → Bool} {f : Nat} : ∀ {k}, (∀ j, f ≤ j → j < f + k → p j = q j) → zn p f k = zn q f k
  | 0, _ => rfl
  | k + 1, h => by
    simp only [zn]
    rw [zn_congr (k := k) (fun j h1 h2 => h j h1 (by omega)), h (f + k) (by omega) (by omega)]
theorem zn_turn {p q : Nat → Bool} {f i : Nat} (hi : p i = false) (hq : q i = true) (ho : ∀ j, j ≠ i → q j = p j) : ∀ {k}, f ≤ i → i < f + k → zn q f k + 1 = zn p f k
  | 0, h1, h2 => by omega
  | k + 1, h1, h2 => by
    simp only [zn]
    by_cases e : i = f + k
    · rw [← e, hi, hq, zn_congr (p := q) (q := p) (fun j h3 h4 => ho j (by omega))]
      simp
    · rw [ho (f + k) (fun h => e h.symm), ← zn_turn hi hq ho (k := k) h1 (by omega)]
      omega
theorem zn_lo (xs : List Int) (f k : Nat) : zn (Mk.Bit.on xs) f k = 0 ↔ lo xs f k = none := by
  constructor
  · induction k with
    | zero => intro _; rfl
    | succ k ih =>
      intro h
      simp only [zn] at h
      simp only [lo]
      rw [ih (by omega)]
      cases ho : Mk.Bit.on xs (f + k) with
      | true => rfl
      | false => rw [ho] at h; simp at h
  · intro h
    have ha := Mk.Al.lo_none xs f k h
    have := zn_congr (p := Mk.Bit.on xs) (q := fun _ => true) (f := f) (k := k) ha
    rw [this]
    clear this ha h
    induction k with
    | zero => rfl
    | succ k ih => simp only [zn, ih]; rfl
/-- How many bits of group n may be given. -/
def fre (H : Nat → List Int) (r : Bool) (B Q n : Nat) : Nat := zn (Mk.Bit.on (rowOf r (H n))) (fN r Q n) (eN r B Q - fN r Q n)
theorem fre_zc {G B Q n : Nat} (hm : Mk.Gm.May (G : Int) B Q) (H : Nat → List Int) (r : Bool) : zc (rowOf r (H n)) (fN r Q n) (eN r B Q) = (fre H r B Q n : Int) := by
  have := (Mk.Al.fe_lt hm r n).1
  unfold fre
  rw [← zc_zn]
  congr 1
  omega
theorem fre_frs {H : Nat → List Int} {r : Bool} {B Q n : Nat} : fre H r B Q n = 0 ↔ frs H r B Q n = none := zn_lo _ _ _
/-- How many bits of the first k groups may be given. -/
def tot (H : Nat → List Int) (r : Bool) (B Q : Nat) : Nat → Nat
  | 0 => 0
  | k + 1 => tot H r B Q k + fre H r B Q k
theorem tot_zero {H : Nat → List Int} {r : Bool} {B Q : Nat} : ∀ {k}, tot H r B Q k = 0 ↔ ∀ n, n < k → frs H r B Q n = none
  | 0 => ⟨fun _ n hn => absurd hn (by omega), fun _ => rfl⟩
  | k + 1 => by
    simp only [tot]
    constructor
    · intro h n hn
      by_cases e : n = k
      · subst e; exact fre_frs.1 (by omega)
      · exact tot_zero.1 (show tot H r B Q k = 0 by omega) n (by omega)
    · intro h
      have h1 := tot_zero.2 (fun n hn => h n (by omega) : ∀ n, n < k → frs H r B Q n = none)
      have h2 := fre_frs.2 (h k (by omega))
      omega
theorem tot_le {H : Nat → List Int} {r : Bool} {B Q : Nat} (hB : eN r B Q ≤ 256) : ∀ {k}, tot H r B Q k ≤ 256 * k
  | 0 => Nat.le_refl _
  | k + 1 => by
    have h1 := tot_le (H := H) (r := r) (B := B) (Q := Q) hB (k := k)
    have h2 := zn_le (Mk.Bit.on (rowOf r (H k))) (fN r Q k) (eN r B Q - fN r Q k)
    simp only [tot]
    unfold fre
    omega
theorem fre_congr {H J : Nat → List Int} {r : Bool} {B Q n : Nat} (h : rowOf r (J n) = rowOf r (H n)) : fre J r B Q n = fre H r B Q n := by unfold fre; rw [h]
theorem tot_congr {H J : Nat → List Int} {r : Bool} {B Q : Nat} : ∀ {k}, (∀ n, n < k → rowOf r (J n) = rowOf r (H n)) → tot J r B Q k = tot H r B Q k
  | 0, _ => rfl
  | k + 1, h => by
    simp only [tot]
    rw [tot_congr (k := k) (fun n hn => h n (by omega)), fre_congr (h k (by omega))]
theorem tot_upd {H J : Nat → List Int} {r : Bool} {B Q n : Nat} (ho : ∀ k, k ≠ n → rowOf r (J k) = rowOf r (H k)) : ∀ {k}, n < k → tot J r B Q k + fre H r B Q n = tot H r B Q k + fre J r B Q n
  | 0, h => by omega
  | k + 1, h => by
    simp only [tot]
    by_cases e : n = k
    · subst e
      rw [tot_congr (k := n) (fun m hm => ho m (by omega))]
      omega
    · have := tot_upd (B := B) (Q := Q) ho (k := k) (by omega)
      rw [fre_congr (ho k (fun h => e h.symm))]
      omega
/-- A bit given: of its own row there is one less to give. -/
theorem tot_give {G B Q n i : Nat} {H : Nat → List Int} (hm : Mk.Gm.May (G : Int) B Q) (hl : (H n).length = 40) (hy : Mk.Num.Byt (H n)) (r : Bool) (hn : n < G) (h : frs H r B Q n = some i) :
    tot (updH H n (putY r (H n) i true)) r B Q G + 1 = tot H r B Q G := by
  obtain ⟨h1, h2, h3⟩ := frs_some hm h
  have hfe := Mk.Al.fe_lt hm r n
  have hi : i / 8 < (rowOf r (H n)).length := by rw [Mk.Al.row_len r hl]; omega
  have hr : rowOf r (updH H n (putY r (H n) i true) n) = Mk.Bit.put (rowOf r (H n)) i true := by
    unfold updH; rw [if_pos rfl]; exact Mk.Al.row_put r hl i true
  have hby := Mk.Al.row_byt r hy
  have e1 : fre (updH H n (putY r (H n) i true)) r B Q n + 1 = fre H r B Q n := by
    unfold fre
    rw [hr]
    exact zn_turn h3 (Mk.Bit.put_on hby hi true) (fun j hj => Mk.Bit.put_other hby hi true hj) h1 (by omega)
  have e2 := tot_upd (H := H) (J := updH H n (putY r (H n) i true)) (r := r) (B := B) (Q := Q) (n := n) (fun k hk => by unfold updH; rw [if_neg hk]) hn
  omega
/-- Of the other row as many as before. -/
theorem tot_else {G B Q n i : Nat} {H : Nat → List Int} (hl : (H n).length = 40) (r : Bool) (b : Bool) : tot (updH H n (putY r (H n) i b)) (!r) B Q G = tot H (!r) B Q G :=
  tot_congr fun k hk => by
    unfold updH
    split
    · rename_i e; subst e; exact Mk.Al.row_other r hl i b
    · rfl
end Go.Proofs.YthdlpeejmmobmaaGreat

namespace Go.Proofs.YthdlpeejmmobmaaGreat
open Go.RowKit Go.Maps
set_option maxRecDepth 100000
set_option linter.unusedVariables false

theorem heap_setCells (b : Nat) : ∀ (vs : List Value) (o : Nat) (w : World), (w.setCells b o vs).heap.size = w.heap.size ∧ (w.setCells b o vs).os = w.os ∧ (w.setCells b o vs).tape = w.tape ∧ (w.setCells b o vs).output = w.output ∧ ∀ k, k ≠ b → (w.setCells b o vs).heap[k]? = w.heap[k]?
  | [], o, w => ⟨rfl, rfl, rfl, rfl, fun _ _ => rfl⟩
  | v :: r, o, w => by
    obtain ⟨h1, h2, h3, h4, h5⟩ := heap_setCells b r (o + 1) (w.setCell ⟨b, o, none⟩ v)
    refine ⟨h1.trans (by simp [World.setCell]), h2.trans rfl, h3.trans rfl, h4.trans rfl, fun k hk => (h5 k hk).trans ?_⟩
    simp only [World.setCell, Array.getElem?_modify]
    rw [if_neg (fun e => hk e.symm)]
theorem below_setCells {B : Nat} {a w : World} (h : Below B a w) (b : Nat) (hb : B ≤ b) (o : Nat) (vs : List Value) : Below B a (w.setCells b o vs) := by
  obtain ⟨h1, h2, h3, h4, h5⟩ := heap_setCells b vs o w
  exact ⟨h2.trans h.os, h3.trans h.tape, h4.trans h.output, by rw [h1]; exact h.size, fun k hk => (h5 k (by omega)).trans (h.block k hk)⟩
/-- Headers in a row: the first k of G that there is room for. -/
structure Hrow (w : World) (b G k : Nat) (H : Nat → List Int) : Prop where
  there : w.there b 0 (41 * G)
  row : ∀ n, n < k → w.rangeAt b (n * 41) (Mk.groupA n (H n)).toList
theorem Hrow.keep {w w' : World} {b G k : Nat} {H : Nat → List Int} (h : Hrow w b G k H) (hb : w'.heap[b]? = w.heap[b]?) : Hrow w' b G k H :=
  ⟨fun j hj => by have := h.there j hj; simp only [World.cell?, World.frozen?, hb] at this ⊢; exact this, fun n hn j v hv => by have := h.row n hn j v hv; simp only [World.cell?, hb] at this ⊢; exact this⟩
theorem Hrow.put {w : World} {b G k : Nat} {H : Nat → List Int} (h : Hrow w b G k H) (hk : k < G) (hl : ∀ n, n ≤ k → (H n).length = 40) : Hrow (w.setCells b (k * 41) (Mk.groupA k (H k)).toList) b G (k + 1) H := by
  have hs : ∀ n, n ≤ k → (Mk.groupA n (H n)).toList.length = 41 := fun n hn => by rw [Array.length_toList]; exact Mk.groupA_size _ _ (hl n hn)
  refine ⟨World.there_setCells h.there _ _ _, fun n hn => ?_⟩
  by_cases e : n = k
  · subst e
    exact World.rangeAt_setCells_same _ _ _ _ (fun j hj => by
      have := hs n (Nat.le_refl _)
      have h2 := h.there (n * 41 + j) (by omega)
      rw [Nat.zero_add] at h2
      exact h2)
  · exact World.rangeAt_setCells_apart (h.row n (by omega)) _ _ _ (.inr (.inl (by rw [hs n (by omega)]; omega)))
theorem Hrow.at_ {w : World} {b G k : Nat} {H : Nat → List Int} (h : Hrow w b G k H) (hk : k < G) : w.there b (k * 41) 41 := fun j hj => by
  have h2 := h.there (k * 41 + j) (by omega)
  rw [Nat.zero_add] at h2
  exact h2
theorem hrow_new {w : World} {b G : Nat} {Z : Array Value} (h : w.heap[b]? = some (.cells Z 64 (0, 0))) (hz : Z.size = 41 * G) (H : Nat → List Int) : Hrow w b G 0 H :=
  ⟨fun j hj => by
    have hj' : j < Z.size := by omega
    simp [World.cell?, World.frozen?, h, Array.getElem?_eq_getElem hj'], fun n hn => absurd hn (by omega)⟩
theorem info64 : (Tryz.prog.info? 64).map (fun i => (i.zero, i.size, i.bytes)) = some (some (Mk.groupV 0 (Mk.zers 40)), 41, 48) := by kernel_rfl
theorem made_hdrs {G : Nat} (hG : G ≤ 8) : ∃ Z, Z.size = 41 * G ∧ ∀ w : World, (Instr.makeSlice 131 (.int .i64 (G : Int)) (.int .i64 (G : Int))).run Tryz.prog w = .ok (.slice (some ⟨w.heap.size, 0, none⟩) G G) (w.alloc (.cells Z 64)) := by
  obtain ⟨i0, hi, hz0, hz1, hz2⟩ := Mk.info_partsS info64
  refine ⟨madeCells (Mk.groupV 0 (Mk.zers 40)).cells (G * i0.size), by rw [size_madeCells, hz1]; omega, fun w => ?_⟩
  have h := run_make (P := Tryz.prog) w 131 64 i0 _ Tryz.underlying131 hi hz0 .i64 .i64 (G : Int) (G : Int) (by omega) (by omega) (by rw [hz2]; omega) (by omega)
  simpa using h
end Go.Proofs.YthdlpeejmmobmaaGreat

namespace Go.Proofs.YthdlpeejmmobmaaGreat
open Go.RowKit Go.Maps
set_option maxRecDepth 100000
set_option linter.unusedVariables false

section
variable {w w' : World} {v : Nat} {F : Nat → Prop} {N : Nat} {I : Nat → List Int} {l c G B Q : Nat}
open Mk.Al in
set_option maxHeartbeats 4000000 in
theorem allHeaders_ok (h : Vol w v F N I l c) (hg : Geo G B Q N) {H : Nat → List Int} (hH : Hds I G B H) (hc : c + 8 < 4611686018427387904) :
    Calls Tryz.prog 64 #[.pointer (some ⟨v, 0, none⟩), Mk.geomV G B Q] w fun e w' => ∃ b, e = .returned (.tuple #[.slice (some ⟨b, 0, none⟩) G G, .int .i64 0]) ∧ ∃ F' c', c' ≤ c + 8 ∧ Vol w' v F' N I l c' ∧ Pt.Stp F F' w w' ∧ w.heap.size ≤ b ∧ ¬ F' b ∧ Hrow w' b G G H := by
  have hfit := hg.fit
  obtain ⟨W, hW⟩ : ∃ W, w.alloc (Mk.geomO G B Q) = W := ⟨_, rfl⟩
  have hb : Below w.heap.size w W := by rw [← hW]; exact Mk.grew_alloc _ _
  have hx : W.heap[w.heap.size]? = some (Mk.geomO G B Q) := by rw [← hW]; exact at_new rfl
  have hsz : W.heap.size = w.heap.size + 1 := by rw [← hW]; simp
  have c0 := (g3_of hx).c0
  have c1 := (g3_of hx).c1
  have c2 := (g3_of hx).c2
  have hlt := h.lt
  have hv := h.later hb
  obtain ⟨Z, hZ, hmk⟩ := made_hdrs (G := G) (by omega)
  obtain ⟨W1, hW1⟩ : ∃ W1, W.alloc (.cells Z 64) = W1 := ⟨_, rfl⟩
  have hb1 : Below W.heap.size W W1 := by rw [← hW1]; exact Mk.grew_alloc _ _
  have hn1 : W1.heap[w.heap.size + 1]? = some (.cells Z 64 (0, 0)) := by rw [← hW1]; exact at_new (by omega)
  have hx1 := (hb1.block _ (Array.getElem?_eq_some_iff.1 hx).1).trans hx
  have hmkW := hmk W
  rw [hW1, hsz] at hmkW
  have hr1 := hrow_new hn1 hZ H
  have hs1 : w.heap.size + 2 ≤ W1.heap.size := by have := (Array.getElem?_eq_some_iff.1 hn1).1; omega
  clear hmk hn1
  go_enter Tryz.func64, Tryz.ntmps64
  go_wp2_with fail
  have HC : Hid (Below w.heap.size w W ∧ (∀ k, F k → k < w.heap.size) ∧ c + 8 < 4611686018427387904 ∧ w.heap.size + 2 ≤ W1.heap.size) := ⟨hb, hlt, hc, hs1⟩
  have hI0 : ∃ k F1 c1, k ≤ G ∧ (.int .i64 0 : Value) = .int .i64 (k : Int) ∧ c1 ≤ c + k ∧ Vol W1 v F1 N I l c1 ∧ Pt.Stp F F1 W W1 ∧ ¬ F1 (w.heap.size + 1) ∧ w.heap.size + 2 ≤ W1.heap.size ∧ W1.heap[w.heap.size]? = some (Mk.geomO G B Q) ∧ Hrow W1 (w.heap.size + 1) G k H :=
    ⟨0, F, c, by omega, rfl, by omega, hv.later hb1, Pt.stp_below hb1, fun hf => by have := hlt _ hf; omega, hs1, hx1, hr1⟩
  clear hb1 hb hx hx1 hW1 hW hv h hlt hr1 hmkW hs1
  go_loopw [15] (fun v15 wr => ∃ k F1 c1, k ≤ G ∧ v15 = .int .i64 (k : Int) ∧ c1 ≤ c + k ∧ Vol wr v F1 N I l c1 ∧ Pt.Stp F F1 W wr ∧ ¬ F1 (w.heap.size + 1) ∧ w.heap.size + 2 ≤ wr.heap.size ∧ wr.heap[w.heap.size]? = some (Mk.geomO G B Q) ∧ Hrow wr (w.heap.size + 1) G k H) (fun v15 _ => G - (intOf v15).toNat)
  case atStart => exact hI0
  case round =>
    clear hI0
    obtain ⟨k, F1, c1, hkG, rfl, hc1, hv, hst, hnh, hszr, hx, hr⟩ := hrel
    have c0 := (g3_of hx).c0
    have c1' := (g3_of hx).c1
    have c2 := (g3_of hx).c2
    have hnF : ∀ k, F1 k → k ≠ w.heap.size ∧ k ≠ w.heap.size + 1 := fun k hk => ⟨fun e => (hst.new k hk).elim (fun h => by have := HC.out.2.1 k h; omega) (fun h => by have : W.heap.size ≤ k := h; omega), fun e => hnh (e ▸ hk)⟩
    by_cases hlt : k < G
    · have hkI : (k : Int) < (G : Int) := by omega
      have hln := hH.len k hlt
      have hsg := Mk.groupA_size (k : Int) (H k) hln
      have hsg0 := Mk.groupA_size 0 (Mk.zers 40) (Mk.zers_len 40)
      have hhd := header_ok hv hg hlt (hH.at_ k hlt) hln (by have := HC.out.2.2.1; omega)
      have HV : Hid (Vol wr v F1 N I l c1 ∧ Pt.Stp F F1 W wr ∧ Hrow wr (w.heap.size + 1) G k H) := ⟨hv, hst, hr⟩
      clear hv hst hr
      go_wp2_with fail
      refine Calls.mono hhd ?_
      rintro e w5 ⟨rfl, F2, hv5, hst5⟩
      dsimp only
      obtain ⟨hv, hst, hr⟩ := HV.out
      have hx5 : w5.heap[w.heap.size]? = some (Mk.geomO G B Q) := (hst5.fr.block _ (by omega) (fun hf => by have := hnF _ hf; omega)).trans hx
      have hr5 : Hrow w5 (w.heap.size + 1) G k H := hr.keep (hst5.fr.block _ (by omega) (fun hf => by have := hnF _ hf; omega))
      have hs5 : w.heap.size + 2 ≤ w5.heap.size := by have := hst5.fr.size; omega
      have hst6 : Pt.Stp F F2 W w5 := stp_trans hst hst5
      have hnF2 : ∀ k, F2 k → k ≠ w.heap.size + 1 := fun k hk e => (hst5.new k hk).elim (fun h => (hnF k h).2 e) (fun h => by have : wr.heap.size ≤ k := h; omega)
      obtain ⟨W6, hW6⟩ : ∃ W6, w5.alloc (Mk.groupO 0 (Mk.zers 40)) = W6 := ⟨_, rfl⟩
      have hb6 : Below w5.heap.size w5 W6 := by rw [← hW6]; exact Mk.grew_alloc _ _
      have hn6 : W6.heap[w5.heap.size]? = some (Mk.groupO 0 (Mk.zers 40)) := by rw [← hW6]; exact at_new rfl
      obtain ⟨W7, hW7⟩ : ∃ W7, W6.setRow w5.heap.size (Mk.groupA k (H k)) = W7 := ⟨_, rfl⟩
      have hn7 : W7.heap[w5.heap.size]? = some (Mk.groupO k (H k)) := by rw [← hW7]; exact setRow_heap _ _ _ _ _ _ hn6
      have hb7 : Below w5.heap.size w5 W7 := by rw [← hW7]; exact below_setRow hb6 (Nat.le_refl _) _
      have hr7 := hr5.keep (hb7.block _ (by omega))
      have hx7 := (hb7.block _ (by omega)).trans hx5
      have hv7 := hv5.later hb7
      have hst7 := stp_grown hst6 hb7
      have hth : W7.there (w.heap.size + 1) (k * 41) (Mk.groupA k (H k)).size := by rw [hsg]; exact hr7.at_ hlt
      dsimp only [Mk.groupO] at hW6
      rw [Mk.zero38] at hW6
      obtain ⟨W8, hW8⟩ : ∃ W8, W7.setCells (w.heap.size + 1) (k * 41) (Mk.groupA k (H k)).toList = W8 := ⟨_, rfl⟩
      have hoth : ∀ q, q ≠ w.heap.size + 1 → W8.heap[q]? = W7.heap[q]? := by rw [← hW8]; exact (heap_setCells _ _ _ _).2.2.2.2
      have hr8 : Hrow W8 (w.heap.size + 1) G (k + 1) H := by rw [← hW8]; exact hr7.put hlt (fun n hn => hH.len n (by omega))
      have hs8 : W8.heap.size = W7.heap.size := by rw [← hW8]; exact (heap_setCells _ _ _ _).1
      have hb8 : Below W.heap.size W7 W8 := by rw [← hW8]; exact below_setCells (Below.refl _ _) _ (by omega) _ _
      have HN : Hid (Vol W8 v F2 N I l (c1 + 1) ∧ W8.heap[w.heap.size]? = some (Mk.geomO G B Q) ∧ Hrow W8 (w.heap.size + 1) G (k + 1) H) := ⟨hv7.else (by omega) (fun q hq => hoth q (hnF2 q hq)), (hoth _ (by omega)).trans hx7, hr8⟩
      clear hst hr hv hv5 hst5 hst6 hv7 hr7 hr5 hr8
      go_wp2_with (first
        | (refine wpList_store_row rfl 64 _ _ rfl w5.heap.size (Mk.groupA k (H k)) rfl rfl 64 _ hn6 (Mk.info38 (k : Int) (H k) hln) (hsg0.trans hsg.symm) (Mk.group_one (k : Int) (H k)) ?_; rw [hW7])
        | (refine wpList_load_row rfl 64 _ rfl w5.heap.size rfl 64 _ (0, 0) _ hn7 Tryz.underlying64 rfl (Mk.info38 (k : Int) (H k) hln) ?_)
        | (refine wpList_store_mid rfl 64 _ _ rfl (w.heap.size + 1) (k * 41) (Mk.groupA k (H k)) rfl rfl hth (Mk.info38 (k : Int) (H k) hln) (Mk.group_one (k : Int) (H k)) ?_; rw [hW8]))
      go_roundw
      case rel =>
        exact ⟨k + 1, F2, c1 + 1, by omega, by go_num, by omega, HN.out.1, stp_low hst7 hb8, fun hf => hnF2 _ hf rfl, by have := hb7.size; omega, HN.out.2.1, HN.out.2.2⟩
      case measure => simp [intOf]; omega
    · have hkG' : k = G := by omega
      subst hkG'
      have hkI : ¬ ((k : Int) < (k : Int)) := by omega
      go_wp2_with fail
      go_ret2
      refine ⟨w.heap.size + 1, rfl, F1, c1, by omega, hv, stp_after HC.out.1 hst, by omega, hnh, hr⟩
end
end Go.Proofs.YthdlpeejmmobmaaGreat

namespace Go.Proofs.YthdlpeejmmobmaaGreat
open Go.RowKit Go.Maps
set_option maxRecDepth 100000
set_option linter.unusedVariables false

section
variable {w w' : World} {v : Nat} {F : Nat → Prop} {N : Nat} {I : Nat → List Int} {l c G B Q : Nat}
open Mk.Al in
set_option maxHeartbeats 4000000 in
theorem room_ok (h : Vol w v F N I l c) (hg : Geo G B Q N) {H : Nat → List Int} (hH : Hds I G B H) (hc : c + 8 < 4611686018427387904) :
    Calls Tryz.prog 21 #[.pointer (some ⟨v, 0, none⟩), Mk.geomV G B Q] w fun e w' => e = .returned (.tuple #[.int .i64 ((tot H false B Q G : Nat) : Int), .int .i64 ((tot H true B Q G : Nat) : Int), .int .i64 0]) ∧ ∃ F' c', c' ≤ c + 8 ∧ Vol w' v F' N I l c' ∧ Pt.Stp F F' w w' := by
  have hfit := hg.fit
  obtain ⟨W, hW⟩ : ∃ W, w.alloc (Mk.geomO G B Q) = W := ⟨_, rfl⟩
  have hb : Below w.heap.size w W := by rw [← hW]; exact Mk.grew_alloc _ _
  have hx : W.heap[w.heap.size]? = some (Mk.geomO G B Q) := by rw [← hW]; exact at_new rfl
  have hsz : W.heap.size = w.heap.size + 1 := by rw [← hW]; simp
  have c0 := (g3_of hx).c0
  have c1 := (g3_of hx).c1
  have c2 := (g3_of hx).c2
  have hlt := h.lt
  have hv := h.later hb
  have hrf := refusal_ok2 hv hg
  have HC : Hid (Vol W v F N I l c ∧ Below w.heap.size w W ∧ (∀ k, F k → k < w.heap.size) ∧ c + 8 < 4611686018427387904) := ⟨hv, hb, hlt, hc⟩
  clear hv h hb hlt
  go_enter Tryz.func21, Tryz.ntmps21
  go_wp2_with fail
  refine Mk.grew_at hrf ?_
  intro w1 hb1
  have hx1 := (hb1.block _ (Array.getElem?_eq_some_iff.1 hx).1).trans hx
  have c0 := (g3_of hx1).c0
  have c1 := (g3_of hx1).c1
  have c2 := (g3_of hx1).c2
  have hah := allHeaders_ok (HC.out.1.later hb1) hg hH hc
  dsimp only
  go_wp2_with fail
  refine Calls.mono hah ?_
  rintro e w2 ⟨hb, rfl, F2, c', hc', hv2, hst2, hblo, hnF, hrow⟩
  dsimp only
  have hx2 : w2.heap[w.heap.size]? = some (Mk.geomO G B Q) := (hst2.fr.block _ (Array.getElem?_eq_some_iff.1 hx1).1 (fun hf => by have := HC.out.2.2.1 _ hf; omega)).trans hx1
  have c0 := (g3_of hx2).c0
  have c1 := (g3_of hx2).c1
  have c2 := (g3_of hx2).c2
  have hst : Pt.Stp F F2 w w2 := stp_after (HC.out.2.1.trans (hb1.mono HC.out.2.1.size)) hst2
  have hsw := hb1.size
  have HV : Hid (Vol w2 v F2 N I l c' ∧ Pt.Stp F F2 w w2 ∧ Hrow w2 hb G G H) := ⟨hv2, hst, hrow⟩
  have hlt2 : hb < w2.heap.size := by
    have h1 := (hrow.there 0 (by omega)).1
    rw [Option.isSome_iff_exists] at h1
    obtain ⟨v0, h1⟩ := h1
    exact lt_of_cell h1
  clear hah hv2 hst2 hst hrow
  go_wp2_with fail
  have hB8 : ∀ r, eN r B Q ≤ 256 := fun r => (fe_lt hg.may r 0).2.2
  go_loopw [10, 11, 31] (fun v10 v11 v31 wr => ∃ k, k ≤ G ∧ v10 = .int .i64 (tot H false B Q k : Int) ∧ v11 = .int .i64 (tot H true B Q k : Int) ∧ v31 = .int .i64 (k : Int) ∧ Below w2.heap.size w2 wr) (fun _ _ v31 _ => G - (intOf v31).toNat)
  case atStart => exact ⟨0, by omega, rfl, rfl, rfl, Below.refl _ _⟩
  case round =>
    obtain ⟨k, hkG, rfl, rfl, rfl, hbr⟩ := hrel
    have hx3 := (hbr.block _ (Array.getElem?_eq_some_iff.1 hx2).1).trans hx2
    have c0 := (g3_of hx3).c0
    have c1 := (g3_of hx3).c1
    have c2 := (g3_of hx3).c2
    by_cases hlt : k < G
    · have hkI : (k : Int) < (G : Int) := by omega
      have hln := hH.len k hlt
      have hsg := Mk.groupA_size (k : Int) (H k) hln
      have hsg0 := Mk.groupA_size 0 (Mk.zers 40) (Mk.zers_len 40)
      have hrw := (HV.out.2.2.keep (hbr.block _ hlt2)).row k hlt
      have hinf : (Tryz.prog.info? 64).map (·.size) = some (Mk.groupA k (H k)).toList.length := by rw [Array.length_toList]; exact Mk.info38 (k : Int) (H k) hln
      have hl0 : ∀ w, Calls Tryz.prog 65 #[.int .i64 0, Mk.geomV G B Q, Mk.groupV k (H k)] w fun e w' => e = .returned (.int .i64 (fre H false B Q k : Int)) ∧ Below w.heap.size w w' := fun w => by
        have := left_ok false (hg.inn hlt) (H k) hln (hH.byt k hlt) w
        rw [fre_zc hg.may] at this
        exact this
      have hl1 : ∀ w, Calls Tryz.prog 65 #[.int .i64 1, Mk.geomV G B Q, Mk.groupV k (H k)] w fun e w' => e = .returned (.int .i64 (fre H true B Q k : Int)) ∧ Below w.heap.size w w' := fun w => by
        have := left_ok true (hg.inn hlt) (H k) hln (hH.byt k hlt) w
        rw [fre_zc hg.may] at this
        exact this
      have ht0 := tot_le (H := H) (hB8 false) (k := k)
      have ht1 := tot_le (H := H) (hB8 true) (k := k)
      have ht2 := tot_le (H := H) (hB8 false) (k := k + 1)
      have ht3 := tot_le (H := H) (hB8 true) (k := k + 1)
      have e0 : tot H false B Q (k + 1) = tot H false B Q k + fre H false B Q k := rfl
      have e1 : tot H true B Q (k + 1) = tot H true B Q k + fre H true B Q k := rfl
      obtain ⟨a0, ha0⟩ : ∃ a0, tot H false B Q k = a0 := ⟨_, rfl⟩
      obtain ⟨a1, ha1⟩ : ∃ a1, tot H true B Q k = a1 := ⟨_, rfl⟩
      obtain ⟨f0, hf0⟩ : ∃ f0, fre H false B Q k = f0 := ⟨_, rfl⟩
      obtain ⟨f1, hf1⟩ : ∃ f1, fre H true B Q k = f1 := ⟨_, rfl⟩
      rw [e0] at ht2
      rw [e1] at ht3
      rw [ha0, hf0] at e0 ht2
      rw [ha1, hf1] at e1 ht3
      rw [ha0] at ht0 ⊢
      rw [ha1] at ht1 ⊢
      rw [hf0] at hl0
      rw [hf1] at hl1
      have hs0 : IntKind.i64.wrap ((a0 : Int) + (f0 : Int)) = (a0 : Int) + (f0 : Int) := IntWalk.i64_in _ (by omega)
      have hs1 : IntKind.i64.wrap ((a1 : Int) + (f1 : Int)) = (a1 : Int) + (f1 : Int) := IntWalk.i64_in _ (by omega)
      have HE : Hid (tot H false B Q (k + 1) = a0 + f0 ∧ tot H true B Q (k + 1) = a1 + f1) := ⟨e0, e1⟩
      clear ha0 ha1 hf0 hf1 e0 e1 ht0 ht1 ht2 ht3
      obtain ⟨W6, hW6⟩ : ∃ W6, wr.alloc (Mk.groupO 0 (Mk.zers 40)) = W6 := ⟨_, rfl⟩
      have hb6 : Below wr.heap.size wr W6 := by rw [← hW6]; exact Mk.grew_alloc _ _
      have hn6 : W6.heap[wr.heap.size]? = some (Mk.groupO 0 (Mk.zers 40)) := by rw [← hW6]; exact at_new rfl
      obtain ⟨W7, hW7⟩ : ∃ W7, W6.setRow wr.heap.size (Mk.groupA k (H k)) = W7 := ⟨_, rfl⟩
      have hn7 : W7.heap[wr.heap.size]? = some (Mk.groupO k (H k)) := by rw [← hW7]; exact setRow_heap _ _ _ _ _ _ hn6
      have hb7 : Below wr.heap.size wr W7 := by rw [← hW7]; exact below_setRow hb6 (Nat.le_refl _) _
      have hx7 := (hb7.block _ (Array.getElem?_eq_some_iff.1 hx3).1).trans hx3
      have c0' := (g3_of hx7).c0
      have c1' := (g3_of hx7).c1
      have c2' := (g3_of hx7).c2
      have c0'' := c0
      dsimp only [Mk.groupO] at hW6
      rw [Mk.zero38] at hW6
      go_wp2_with (first
        | (refine wpList_load_mid rfl 64 _ rfl hb (k * 41) rfl _ _ hrw Tryz.underlying64 rfl hinf ?_; rw [Array.toArray_toList])
        | (refine wpList_store_row rfl 64 _ _ rfl wr.heap.size (Mk.groupA k (H k)) rfl rfl 64 _ hn6 (Mk.info38 (k : Int) (H k) hln) (hsg0.trans hsg.symm) (Mk.group_one (k : Int) (H k)) ?_; rw [hW7])
        | (refine wpList_load_row rfl 64 _ rfl wr.heap.size rfl 64 _ (0, 0) _ hn7 Tryz.underlying64 rfl (Mk.info38 (k : Int) (H k) hln) ?_))
      refine Mk.grew_at (hl0 _) ?_
      intro w3 hb3
      have hx8 := (hb3.block _ (Array.getElem?_eq_some_iff.1 hx7).1).trans hx7
      have hn8 := (hb3.block _ (Array.getElem?_eq_some_iff.1 hn7).1).trans hn7
      have c0 := (g3_of hx8).c0
      have c1 := (g3_of hx8).c1
      have c2 := (g3_of hx8).c2
      dsimp only
      go_wp2_with (first
        | (refine wpList_load_row rfl 64 _ rfl wr.heap.size rfl 64 _ (0, 0) _ hn8 Tryz.underlying64 rfl (Mk.info38 (k : Int) (H k) hln) ?_))
      refine Mk.grew_at (hl1 _) ?_
      intro w4 hb4
      dsimp only
      go_wp2_with fail
      go_roundw
      case rel =>
        exact ⟨k + 1, by omega, by rw [HE.out.1]; go_num, by rw [HE.out.2]; go_num, by go_num, hbr.trans (((hb7.mono hbr.size)).trans ((hb3.mono (by have := hb7.size; have := hbr.size; omega)).trans (hb4.mono (by have := hb3.size; have := hb7.size; have := hbr.size; omega))))⟩
      case measure => simp [intOf]; omega
    · have hkG' : k = G := by omega
      subst hkG'
      have hkI : ¬ ((k : Int) < (k : Int)) := by omega
      go_wp2_with fail
      go_ret3
      exact ⟨rfl, F2, c', hc', HV.out.1.later hbr, stp_grown HV.out.2.1 hbr⟩
end
end Go.Proofs.YthdlpeejmmobmaaGreat

namespace Go.Proofs.YthdlpeejmmobmaaGreat
open Go.RowKit Go.Maps
set_option maxRecDepth 100000
set_option linter.unusedVariables false

/-- What the comparison reads. -/
structure R5 (w wr w2 wx : World) (G B Q n m : Nat) (ys zs : List Int) : Prop where
  g : wx.heap[w.heap.size]? = some (Mk.geomO G B Q)
  n : wx.heap[wr.heap.size]? = some (Mk.groupO n ys)
  m : wx.heap[w2.heap.size]? = some (Mk.groupO m zs)
  b : Below w2.heap.size w2 wx
theorem R5.kept {w wr w2 wx wy : World} {G B Q n m : Nat} {ys zs : List Int} (h : R5 w wr w2 wx G B Q n m ys zs) (hb : Below wx.heap.size wx wy) : R5 w wr w2 wy G B Q n m ys zs :=
  ⟨(hb.block _ (Array.getElem?_eq_some_iff.1 h.g).1).trans h.g, (hb.block _ (Array.getElem?_eq_some_iff.1 h.n).1).trans h.n, (hb.block _ (Array.getElem?_eq_some_iff.1 h.m).1).trans h.m, h.b.trans (hb.mono h.b.size)⟩
theorem row_range {w : World} {b : Nat} {n : Int} {ys : List Int} (h : w.heap[b]? = some (Mk.groupO n ys)) : w.rangeAt b 0 (Mk.groupA n ys).toList := fun j v hv => by
  rw [Nat.zero_add]
  refine cell_of_row _ _ j _ _ _ h |>.trans ?_
  rw [← Array.getElem?_toList]
  exact hv
theorem R5.cells {w wr w2 wx : World} {G B Q n m : Nat} {ys zs : List Int} (h : R5 w wr w2 wx G B Q n m ys zs) :
    (wx.cell? ⟨w.heap.size, 0, none⟩ = some (.int .i64 (G : Int)) ∧ wx.cell? ⟨w.heap.size, 1, none⟩ = some (.int .i64 (B : Int)) ∧ wx.cell? ⟨w.heap.size, 2, none⟩ = some (.int .i64 (Q : Int))) ∧ wx.rangeAt wr.heap.size 0 (Mk.groupA n ys).toList ∧ wx.rangeAt w2.heap.size 0 (Mk.groupA m zs).toList :=
  ⟨⟨(g3_of h.g).c0, (g3_of h.g).c1, (g3_of h.g).c2⟩, row_range h.n, row_range h.m⟩

section
variable {w w' : World} {v : Nat} {F : Nat → Prop} {N : Nat} {I : Nat → List Int} {l c G B Q : Nat}
end
end Go.Proofs.YthdlpeejmmobmaaGreat

namespace Go.Proofs.YthdlpeejmmobmaaGreat
open Go.RowKit Go.Maps
set_option maxRecDepth 100000
set_option linter.unusedVariables false

theorem ii_nil (w : World) : Pt.II w none 0 [] := ⟨rfl, by omega, fun x hx => (by cases hx), fun h => absurd h (by omega)⟩
section
variable {w w' : World} {v : Nat} {F : Nat → Prop} {N : Nat} {I : Nat → List Int} {l c G B Q : Nat}
end
end Go.Proofs.YthdlpeejmmobmaaGreat
