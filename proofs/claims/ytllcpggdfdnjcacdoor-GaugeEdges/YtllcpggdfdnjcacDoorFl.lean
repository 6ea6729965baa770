/- Floats of double precision by their bits: how they are ordered, what the four operations give where one is no number. -/
import Derived.Laws.FloatArith
import Derived.WalkLawsBesides
namespace Go.Proofs.YtllcpggdfdnjcacDoor
open Ieee
set_option linter.unusedVariables false

/-- The size of a rung, in units of the least place. -/
def mg (r : Nat) : Nat :=
  if r < 4503599627370496 then r
  else (4503599627370496 + r % 4503599627370496) * 2 ^ (r / 4503599627370496 - 1)

theorem mg_succ (r : Nat) : mg r < mg (r + 1) := by
  unfold mg
  by_cases h : r + 1 < 4503599627370496
  · rw [if_pos (by omega), if_pos h]; omega
  · by_cases h2 : r < 4503599627370496
    · have e : r = 4503599627370495 := by omega
      subst e; decide
    · rw [if_neg h2, if_neg h]
      by_cases h3 : r % 4503599627370496 + 1 < 4503599627370496
      · have e1 : (r + 1) / 4503599627370496 = r / 4503599627370496 := by omega
        have e2 : (r + 1) % 4503599627370496 = r % 4503599627370496 + 1 := by omega
        rw [e1, e2]
        exact Nat.mul_lt_mul_of_pos_right (by omega) (Nat.two_pow_pos _)
      · have e1 : (r + 1) / 4503599627370496 - 1 = (r / 4503599627370496 - 1) + 1 := by omega
        have e2 : (r + 1) % 4503599627370496 = 0 := by omega
        rw [e1, e2, Nat.pow_succ]
        have hp := Nat.two_pow_pos (r / 4503599627370496 - 1)
        have e3 : (4503599627370496 + 0) * (2 ^ (r / 4503599627370496 - 1) * 2) = (2 * 4503599627370496) * 2 ^ (r / 4503599627370496 - 1) := by
          rw [Nat.mul_comm (2 ^ _) 2, ← Nat.mul_assoc]
        rw [e3]
        exact Nat.mul_lt_mul_of_pos_right (by omega) hp

theorem mg_lt : ∀ {r s : Nat}, r < s → mg r < mg s := by
  intro r s h
  induction s with
  | zero => omega
  | succ n ih =>
    rcases Nat.lt_or_ge r n with h1 | h1
    · exact Nat.lt_trans (ih h1) (mg_succ n)
    · have e : r = n := by omega
      subst e; exact mg_succ r

theorem mg_le {r s : Nat} (h : r ≤ s) : mg r ≤ mg s := by
  rcases Nat.lt_or_ge r s with h1 | h1
  · exact Nat.le_of_lt (mg_lt h1)
  · have e : r = s := by omega
    subst e; exact Nat.le_refl _

theorem mg_zero : mg 0 = 0 := rfl

def sg (w : Nat) : Bool := w / 9223372036854775808 % 2 == 1
def rg (w : Nat) : Nat := w % 9223372036854775808
/-- No number. -/
def isN (w : Nat) : Prop := 9218868437227405312 < rg w
instance (w : Nat) : Decidable (isN w) := inferInstanceAs (Decidable (_ < _))

theorem read_num (w : Nat) (h : rg w < 9218868437227405312) :
    ∃ m p, double.read w = .number (sg w) m p ∧ -1074 ≤ p ∧ m * 2 ^ (p + 1074).toNat = mg (rg w) := by
  unfold Format.read
  have h1 : double.signWeight = 9223372036854775808 := by decide
  have h2 : double.binade = 4503599627370496 := by decide
  have h3 : double.infRung = 9218868437227405312 := by decide
  have h4 : double.leastPlace = -1074 := by decide
  simp only [h1, h2, h3, h4]
  unfold rg at h ⊢
  by_cases hr : w % 9223372036854775808 < 4503599627370496
  · rw [if_pos hr]
    refine ⟨_, _, rfl, by decide, ?_⟩
    unfold mg
    rw [if_pos hr]
    simp
  · rw [if_neg hr, if_pos h]
    refine ⟨_, _, rfl, by omega, ?_⟩
    unfold mg
    rw [if_neg hr]
    congr 1
    congr 1
    omega

theorem read_inf (w : Nat) (h : rg w = 9218868437227405312) : double.read w = .infinity (sg w) := by
  unfold Format.read
  have h1 : double.signWeight = 9223372036854775808 := by decide
  have h2 : double.binade = 4503599627370496 := by decide
  have h3 : double.infRung = 9218868437227405312 := by decide
  simp only [h1, h2, h3]
  unfold rg at h
  rw [h]; rfl

theorem read_nan (w : Nat) (h : isN w) : ∃ t, double.read w = .nan (sg w) t := by
  unfold Format.read
  have h1 : double.signWeight = 9223372036854775808 := by decide
  have h2 : double.binade = 4503599627370496 := by decide
  have h3 : double.infRung = 9218868437227405312 := by decide
  simp only [h1, h2, h3]
  unfold isN rg at h
  rw [if_neg (by omega), if_neg (by omega), if_neg (by omega)]
  exact ⟨_, rfl⟩

/-- The value of a word that is a number, in units of the least place; an infinity above all. -/
def sv (w : Nat) : Int := if sg w then -(mg (rg w) : Int) else (mg (rg w) : Int)
/-- Its rung with its sign. -/
def sr (w : Nat) : Int := if sg w then -(rg w : Int) else (rg w : Int)

theorem sv_lt (a b : Nat) : sv a < sv b ↔ sr a < sr b := by
  have key : ∀ x y : Nat, mg x < mg y ↔ x < y := fun x y => ⟨fun h => by
    rcases Nat.lt_or_ge x y with h1 | h1
    · exact h1
    · exact absurd (mg_le h1) (by omega), mg_lt⟩
  have k1 := key (rg a) (rg b)
  have k2 := key (rg b) (rg a)
  have k3 := key 0 (rg a)
  have k4 := key 0 (rg b)
  rw [mg_zero] at k3 k4
  unfold sv sr
  cases sg a <;> cases sg b <;> simp <;> omega

theorem compare_of (a b c d : Int) (h1 : a < b ↔ c < d) (h2 : b < a ↔ d < c) : compare a b = compare c d := by
  simp only [compare, compareOfLessAndEq]
  by_cases x : a < b
  · rw [if_pos x, if_pos (h1.1 x)]
  · rw [if_neg x, if_neg (fun y => x (h1.2 y))]
    by_cases y : b < a
    · rw [if_neg (by omega), if_neg (by have := h2.1 y; omega)]
    · rw [if_pos (by omega), if_pos (by have : ¬ d < c := fun z => y (h2.2 z); have : ¬ c < d := fun z => x (h1.2 z); omega)]

theorem cmp_lt {a b : Int} (h : a < b) : compare a b = .lt := by simp [compare, compareOfLessAndEq, h]
theorem cmp_gt {a b : Int} (h : b < a) : compare a b = .gt := by
  simp only [compare, compareOfLessAndEq]; rw [if_neg (by omega), if_neg (by omega)]
theorem cmp_eq {a b : Int} (h : a = b) : compare a b = .eq := by
  simp only [compare, compareOfLessAndEq]; rw [if_neg (by omega), if_pos h]

theorem scale (m : Nat) (i base : Int) (s : Bool) (hb : -1074 ≤ base) (hi : base ≤ i) (M : Nat) (hm : m * 2 ^ (i + 1074).toNat = M) :
    signed s m (i - base).toNat * (2 ^ (base + 1074).toNat : Nat) = if s then -(M : Int) else (M : Int) := by
  have e : (m <<< (i - base).toNat) * 2 ^ (base + 1074).toNat = M := by
    rw [Nat.shiftLeft_eq, Nat.mul_assoc, ← Nat.pow_add, ← hm]
    congr 2
    omega
  unfold signed
  cases s
  · simp only [Bool.false_eq_true, if_false]
    rw [← e]; simp
  · simp only [if_true]
    rw [← e, Int.neg_mul]; simp

theorem order_num (a b : Nat) (ha : ¬ isN a) (hb : ¬ isN b) : double.order a b = some (compare (sr a) (sr b)) := by
  have l1 := sv_lt a b
  have l2 := sv_lt b a
  unfold isN at ha hb
  have inf1 : ∀ x : Nat, x < 9218868437227405312 → ∀ y, y = 9218868437227405312 → x < y := fun x h y e => by omega
  unfold Format.order
  rcases Nat.lt_or_ge (rg a) 9218868437227405312 with h1 | h1
  · obtain ⟨m, i, e1, hi, hm⟩ := read_num a h1
    rcases Nat.lt_or_ge (rg b) 9218868437227405312 with h2 | h2
    · obtain ⟨n, j, e2, hj, hn⟩ := read_num b h2
      rw [e1, e2]
      simp only [Datum.order]
      congr 1
      have hbase : -1074 ≤ min i j := by omega
      have s1 := scale m i (min i j) (sg a) hbase (by omega) _ hm
      have s2 := scale n j (min i j) (sg b) hbase (by omega) _ hn
      have hp : (0 : Int) < (2 ^ (min i j + 1074).toNat : Nat) := Int.natCast_pos.2 (Nat.two_pow_pos _)
      refine compare_of _ _ _ _ ?_ ?_
      · rw [← l1]; unfold sv; rw [← s1, ← s2]
        exact ⟨fun h => Int.mul_lt_mul_of_pos_right h hp, fun h => Int.lt_of_mul_lt_mul_right h (Int.le_of_lt hp)⟩
      · rw [← l2]; unfold sv; rw [← s1, ← s2]
        exact ⟨fun h => Int.mul_lt_mul_of_pos_right h hp, fun h => Int.lt_of_mul_lt_mul_right h (Int.le_of_lt hp)⟩
    · have e2 := read_inf b (by omega)
      rw [e1, e2]
      simp only [Datum.order]
      congr 1
      unfold sr
      cases sg a <;> cases sg b <;> simp only [Bool.false_eq_true, if_false, if_true] <;> first | (rw [cmp_lt (by omega)]) | (rw [cmp_gt (by omega)])
  · have e1 := read_inf a (by omega)
    rcases Nat.lt_or_ge (rg b) 9218868437227405312 with h2 | h2
    · obtain ⟨n, j, e2, hj, hn⟩ := read_num b h2
      rw [e1, e2]
      simp only [Datum.order]
      congr 1
      unfold sr
      cases sg a <;> cases sg b <;> simp only [Bool.false_eq_true, if_false, if_true] <;> first | (rw [cmp_lt (by omega)]) | (rw [cmp_gt (by omega)])
    · have e2 := read_inf b (by omega)
      rw [e1, e2]
      simp only [Datum.order]
      congr 1
      unfold sr
      have : rg a = 9218868437227405312 := by omega
      have : rg b = 9218868437227405312 := by omega
      cases sg a <;> cases sg b <;> simp only [Bool.false_eq_true, if_false, if_true] <;> first | (rw [cmp_lt (by omega)]; rfl) | (rw [cmp_gt (by omega)]; rfl) | (rw [cmp_eq (by omega)]; rfl)

theorem order_nan (a b : Nat) (h : isN a ∨ isN b) : double.order a b = none := by
  unfold Format.order
  rcases h with h | h
  · obtain ⟨t, e⟩ := read_nan a h
    rw [e]; simp [Datum.order]
  · obtain ⟨t, e⟩ := read_nan b h
    rw [e]; cases double.read a <;> simp [Datum.order]

/-- A float as it is told: 'none' of what is no number, whatever its bits. -/
def fc (x : Nat) : Option Nat := if isN x then none else some x

theorem word_rg (neg : Bool) (r : Nat) (h : r < 9223372036854775808) : rg (double.word neg r) = r := by
  have h1 : double.signWeight = 9223372036854775808 := by decide
  unfold Format.word rg
  rw [h1]
  cases neg <;> simp <;> omega

theorem word_sg (neg : Bool) (r : Nat) (h : r < 9223372036854775808) : sg (double.word neg r) = neg := by
  have h1 : double.signWeight = 9223372036854775808 := by decide
  unfold Format.word sg
  rw [h1]
  cases neg <;> simp <;> omega

theorem nearest_notN (neg : Bool) (m : Nat) (p : Int) : ¬ isN (double.nearest neg m p) := by
  have h3 : double.infRung = 9218868437227405312 := by decide
  unfold Format.nearest isN
  by_cases hm : m = 0
  · rw [if_pos hm, word_rg _ _ (by decide)]; decide
  · rw [if_neg hm]
    dsimp only
    rw [word_rg]
    · rw [h3]; omega
    · rw [h3]; omega

/-- What is written of a datum that is no NaN is none. -/
theorem write_notN (d : Datum) (h : d.isNaN = false) : ¬ isN (double.write d) := by
  cases d with
  | number neg m p => exact nearest_notN neg m p
  | infinity neg =>
    unfold isN
    simp only [Format.write]
    rw [word_rg _ _ (by decide)]
    decide
  | nan => cases h

theorem sum_notN (a b d : Datum) (h : a.sum b = some d) : d.isNaN = false := by
  cases a <;> cases b <;> simp [Datum.sum] at h
  · subst h; rfl
  · subst h; rfl
  · subst h; rfl
  · obtain ⟨_, rfl⟩ := h; rfl

theorem product_notN (a b d : Datum) (h : a.product b = some d) : d.isNaN = false := by
  cases a <;> cases b <;> simp [Datum.product] at h
  · subst h; rfl
  · obtain ⟨_, rfl⟩ := h; rfl
  · obtain ⟨_, rfl⟩ := h; rfl
  · subst h; rfl

theorem quotient_notN (n : Nat) (a b d : Datum) (h : a.quotient n b = some d) : d.isNaN = false := by
  cases a <;> cases b <;> simp [Datum.quotient] at h
  · split at h
    · split at h
      · cases h
      · cases h; rfl
    · cases h; rfl
  · subst h; rfl
  · subst h; rfl

theorem map_notN {o : Option Datum} {r : Nat} (h : o.map double.write = some r) (hd : ∀ d, o = some d → d.isNaN = false) : ¬ isN r := by
  cases o with
  | none => cases h
  | some d => cases h; exact write_notN d (hd d rfl)

inductive Fop : BinOp → Prop
  | add : Fop .add
  | sub : Fop .sub
  | mul : Fop .mul
  | quo : Fop .quo

theorem fbits_notN {op : BinOp} {x y r : Nat} (h : floatBits op .f64 x y = some r) : ¬ isN r := by
  unfold floatBits at h
  split at h
  · exact map_notN h fun d e => sum_notN _ _ d e
  · exact map_notN h fun d e => sum_notN _ _ d e
  · exact map_notN h fun d e => product_notN _ _ d e
  · exact map_notN h fun d e => quotient_notN _ _ _ d e
  · cases h

theorem fbits_nan {op : BinOp} {x y : Nat} (h : isN x ∨ isN y) : floatBits op .f64 x y = none := by
  unfold floatBits
  split
  all_goals try rfl
  all_goals
    simp only [FloatKind.format, Format.add, Format.sub, Format.mul, Format.div]
    rcases h with h | h
    · obtain ⟨t, e⟩ := read_nan _ h
      rw [e]; simp [Datum.sum, Datum.product, Datum.quotient]
    · obtain ⟨t, e⟩ := read_nan _ h
      rw [e]; cases double.read x <;> simp [Datum.sum, Datum.product, Datum.quotient, Datum.opposite]

theorem fbits_lt {op : BinOp} {x y r : Nat} (h : floatBits op .f64 x y = some r) : r < 18446744073709551616 := by
  have := floatBits_wf h
  simpa [Lit.wf] using this

/-- An operation of floats as they are told. -/
def ob (op : BinOp) : Option Nat → Option Nat → Option Nat
  | some a, some b => floatBits op .f64 a b
  | _, _ => none

def nanAt (x y : Nat) (w : World) : Nat := Question.cut (.nanBits .f64 x y) (w.tape w.drawn (.nanBits .f64 x y))
/-- The bits that an operation gives in a world. -/
def fv (op : BinOp) (x y : Nat) (w : World) : Nat := match floatBits op .f64 x y with
  | some r => r
  | none => nanAt x y w
/-- How often the tape is asked. -/
def fq (op : BinOp) (x y : Nat) : Nat := match floatBits op .f64 x y with
  | some _ => 0
  | none => 1

theorem nanAt_isN (x y : Nat) (w : World) : isN (nanAt x y w) ∧ nanAt x y w < 18446744073709551616 := by
  unfold nanAt isN rg Question.cut
  simp only
  have e1 : (2 : Nat) ^ 63 = 9223372036854775808 := by decide
  have e2 : (2 : Nat) ^ 52 = 4503599627370496 := by decide
  rw [e1, e2]
  generalize w.tape w.drawn (Question.nanBits FloatKind.f64 x y) = t
  rcases Nat.mod_two_eq_zero_or_one t with h | h
  · rw [h]; omega
  · rw [h]; omega

theorem fc_fv (op : BinOp) (x y : Nat) (w : World) : fc (fv op x y w) = ob op (fc x) (fc y) := by
  have key : ob op (fc x) (fc y) = floatBits op .f64 x y := by
    unfold fc
    by_cases hx : isN x
    · rw [if_pos hx, fbits_nan (Or.inl hx)]; rfl
    · by_cases hy : isN y
      · rw [if_neg hx, if_pos hy, fbits_nan (Or.inr hy)]; rfl
      · rw [if_neg hx, if_neg hy]; rfl
  rw [key]
  unfold fv
  cases h : floatBits op .f64 x y with
  | none => simp only [fc]; rw [if_pos (nanAt_isN x y w).1]
  | some r => simp only [fc]; rw [if_neg (fbits_notN h)]

theorem fv_lt (op : BinOp) (x y : Nat) (w : World) : fv op x y w < 18446744073709551616 := by
  unfold fv
  cases h : floatBits op .f64 x y with
  | none => exact (nanAt_isN x y w).2
  | some r => exact fbits_lt h

section
variable {P : Program} (w : World)
theorem run_fop {op : BinOp} (hop : Fop op) (t : TypeId) (x y : Nat) :
    (binOp op t (.float .f64 x) (.float .f64 y)).run P w = .ok (.float .f64 (fv op x y w)) (w.drewN (fq op x y)) := by
  unfold fv fq
  cases h : floatBits op .f64 x y with
  | some r => exact run_float_arith w op t .f64 x y r h
  | none =>
    unfold floatBits at h
    cases hop <;> simp only at h <;> simp [binOp, Op.floatArith, h, nanAt]
    all_goals (rw [if_neg (by simp [Question.forced])]; rfl)
end

theorem log2_mul_pow (m k : Nat) (h : m ≠ 0) : (m * 2 ^ k).log2 = m.log2 + k := by
  have hp := Nat.two_pow_pos k
  have h1 : m * 2 ^ k ≠ 0 := Nat.mul_ne_zero h (by omega)
  refine (Nat.log2_eq_iff h1).2 ⟨?_, ?_⟩
  · rw [Nat.pow_add]; exact Nat.mul_le_mul_right _ (Nat.log2_self_le h)
  · have := Nat.lt_log2_self (n := m)
    rw [show m.log2 + k + 1 = (m.log2 + 1) + k by omega, Nat.pow_add]
    exact Nat.mul_lt_mul_of_pos_right this hp

/-- Rounded to the nearest, of two as near to the even one. -/
def rhe (n g : Nat) : Nat := n / g + if g < 2 * (n % g) ∨ g = 2 * (n % g) ∧ n / g % 2 = 1 then 1 else 0

theorem cut_even (neg : Bool) (n d : Nat) (h : d ≤ n.log2 + 2) : Toward.even.cut neg n d = rhe n (2 ^ d) := by
  unfold Toward.cut rhe
  simp only [Nat.min_eq_left h, Nat.one_shiftLeft]
  congr 1
  by_cases h1 : 2 ^ d < 2 * (n % 2 ^ d)
  · simp [h1]
  · by_cases h2 : 2 ^ d = 2 * (n % 2 ^ d)
    · by_cases h3 : n / 2 ^ d % 2 = 1
      · rw [if_pos (Or.inr ⟨h2, h3⟩)]; simp [h1, h3]; exact h2
      · rw [if_neg (by omega)]; simp [h1, h3]
    · rw [if_neg (by omega)]; simp [h1, h2]

theorem cut_even_far (neg : Bool) (n d : Nat) (h : n.log2 + 2 ≤ d) : Toward.even.cut neg n d = 0 := by
  unfold Toward.cut
  simp only [Nat.min_eq_right h, Nat.one_shiftLeft]
  have h0 := Nat.lt_log2_self (n := n)
  have h1 : n < 2 ^ (n.log2 + 2) := Nat.lt_of_lt_of_le h0 (Nat.pow_le_pow_right (by omega) (by omega))
  have h2 : 2 * n < 2 ^ (n.log2 + 2) := by rw [show n.log2 + 2 = (n.log2 + 1) + 1 by omega, Nat.pow_succ]; omega
  rw [Nat.mod_eq_of_lt h1, Nat.div_eq_of_lt h1]
  simp; omega

theorem cut_scale (neg : Bool) (m k d : Nat) (h : m ≠ 0) : Toward.even.cut neg (m * 2 ^ k) (d + k) = Toward.even.cut neg m d := by
  have hl := log2_mul_pow m k h
  rcases Nat.lt_or_ge (m.log2 + 2) d with h1 | h1
  · rw [cut_even_far _ _ _ (by omega), cut_even_far _ _ _ (by omega)]
  · rw [cut_even _ _ _ (by omega), cut_even _ _ _ h1]
    unfold rhe
    have hp := Nat.two_pow_pos k
    rw [Nat.pow_add, Nat.mul_mod_mul_right, Nat.mul_div_mul_right _ _ hp]
    congr 1
    have e : ∀ a b : Nat, (a * 2 ^ k < 2 * (b * 2 ^ k) ↔ a < 2 * b) := fun a b => by
      rw [← Nat.mul_assoc]; exact Nat.mul_lt_mul_right hp
    have e2 : ∀ a b : Nat, (a * 2 ^ k = 2 * (b * 2 ^ k) ↔ a = 2 * b) := fun a b => by
      rw [← Nat.mul_assoc]; exact ⟨fun h => Nat.eq_of_mul_eq_mul_right hp h, fun h => by rw [h]⟩
    simp only [e, e2]

theorem cut_zero (neg : Bool) (n : Nat) : Toward.even.cut neg n 0 = n := by
  rw [cut_even _ _ _ (by omega)]
  unfold rhe
  simp [Nat.mod_one]

theorem cut_drop (neg : Bool) (m j d : Nat) (h : m ≠ 0) : Toward.even.cut neg (m * 2 ^ (j + d)) d = m * 2 ^ j := by
  have := cut_scale neg (m * 2 ^ j) d 0 (Nat.mul_ne_zero h (by have := Nat.two_pow_pos j; omega))
  rw [cut_zero, Nat.mul_assoc, ← Nat.pow_add, Nat.zero_add] at this
  exact this

/-- A number written at another place is the same word. -/
theorem nearest_scale (neg : Bool) (m k : Nat) (p : Int) (h : m ≠ 0) : double.nearest neg (m * 2 ^ k) (p - k) = double.nearest neg m p := by
  have hl := log2_mul_pow m k h
  have hp := Nat.two_pow_pos k
  have hf : double.fractionBits = 52 := rfl
  have h4 : double.leastPlace = -1074 := by decide
  unfold Format.nearest
  rw [if_neg (Nat.mul_ne_zero h (by omega)), if_neg h]
  dsimp only
  rw [hl, hf, h4]
  have el : max (p - (k : Int) + ((m.log2 + k : Nat) : Int) - ((52 : Nat) : Int)) (-1074) = max (p + (m.log2 : Int) - ((52 : Nat) : Int)) (-1074) := by
    congr 1; omega
  rw [el]
  generalize max (p + (m.log2 : Int) - ((52 : Nat) : Int)) (-1074) = last
  congr 3
  rw [Nat.shiftLeft_eq, Nat.shiftLeft_eq]
  rcases Int.lt_or_le last p with h1 | h1
  · rcases Int.lt_or_le last (p - k) with h2 | h2
    · have e1 : (last - (p - k)).toNat = 0 := by omega
      have e2 : (last - p).toNat = 0 := by omega
      rw [e1, e2, cut_zero, cut_zero, Nat.mul_assoc, ← Nat.pow_add]
      congr 2; omega
    · have e1 : (p - k - last).toNat = 0 := by omega
      have e2 : (last - p).toNat = 0 := by omega
      have e3 : k = (p - last).toNat + (last - (p - k)).toNat := by omega
      rw [e1, e2, cut_zero]
      simp only [Nat.pow_zero, Nat.mul_one]
      generalize (last - (p - ↑k)).toNat = d at e3 ⊢
      generalize (p - last).toNat = j at e3 ⊢
      subst e3
      exact cut_drop neg m j d h
  · have e1 : (p - k - last).toNat = 0 := by omega
    have e2 : (p - last).toNat = 0 := by omega
    have e3 : (last - (p - k)).toNat = (last - p).toNat + k := by omega
    rw [e1, e2, e3]
    simp only [Nat.pow_zero, Nat.mul_one]
    exact cut_scale neg m k _ h

theorem near_norm (s : Bool) (m : Nat) (p : Int) (h1 : 4503599627370496 ≤ m) (h2 : m < 9007199254740992) (hp : -1074 ≤ p) :
    double.nearest s m p = double.word s (min ((p + 1074).toNat * 4503599627370496 + m) 9218868437227405312) := by
  have hf : double.fractionBits = 52 := rfl
  have h4 : double.leastPlace = -1074 := by decide
  have h5 : double.binade = 4503599627370496 := by decide
  have h6 : double.infRung = 9218868437227405312 := by decide
  have hl : m.log2 = 52 := (Nat.log2_eq_iff (by omega)).2 ⟨by simpa using h1, by simpa using h2⟩
  unfold Format.nearest
  rw [if_neg (by omega)]
  dsimp only
  rw [hl, hf, h4, h5, h6]
  have el : max (p + ((52 : Nat) : Int) - ((52 : Nat) : Int)) (-1074) = p := by omega
  rw [el]
  have e1 : (p - p).toNat = 0 := by omega
  rw [e1, cut_zero]
  congr 2

theorem near_mg (s : Bool) (r : Nat) (h0 : 0 < r) (h : r < 9218868437227405312) : double.nearest s (mg r) (-1074) = double.word s r := by
  by_cases hr : r < 4503599627370496
  · have e : mg r = r := by unfold mg; rw [if_pos hr]
    rw [e]
    have hf : double.fractionBits = 52 := rfl
    have h4 : double.leastPlace = -1074 := by decide
    have h5 : double.binade = 4503599627370496 := by decide
    have h6 : double.infRung = 9218868437227405312 := by decide
    have hl : r.log2 < 52 := (Nat.log2_lt (by omega)).2 (by simpa using hr)
    unfold Format.nearest
    rw [if_neg (by omega)]
    dsimp only
    rw [hf, h4, h5, h6]
    have el : max (-1074 + (r.log2 : Int) - ((52 : Nat) : Int)) (-1074) = -1074 := by omega
    rw [el]
    have e1 : ((-1074 : Int) - (-1074)).toNat = 0 := by decide
    rw [e1, cut_zero]
    simp only [Nat.zero_mul, Nat.zero_add, Nat.shiftLeft_zero]
    rw [Nat.min_eq_left (by omega)]
  · have e : mg r = (4503599627370496 + r % 4503599627370496) * 2 ^ (r / 4503599627370496 - 1) := by unfold mg; rw [if_neg hr]
    have hs := nearest_scale s (4503599627370496 + r % 4503599627370496) (r / 4503599627370496 - 1) (-1074 + ((r / 4503599627370496 - 1 : Nat) : Int)) (by omega)
    rw [show (-1074 + ((r / 4503599627370496 - 1 : Nat) : Int)) - ((r / 4503599627370496 - 1 : Nat) : Int) = -1074 by omega] at hs
    rw [e, hs, near_norm _ _ _ (by omega) (by omega) (by omega)]
    congr 1
    omega

theorem near_at (s : Bool) (m : Nat) (p : Int) (hp : -1074 ≤ p) (h : m ≠ 0) : double.nearest s m p = double.nearest s (m * 2 ^ (p + 1074).toNat) (-1074) := by
  have hs := nearest_scale s m (p + 1074).toNat p h
  rw [show p - ((p + 1074).toNat : Int) = -1074 by omega] at hs
  exact hs.symm

theorem ex_rung (m k : Nat) (h0 : 0 < m) (h : m < 9007199254740992) (hk : k ≤ 2045) : ∃ r, 0 < r ∧ r < 9218868437227405312 ∧ mg r = m * 2 ^ k := by
  have hl0 := Nat.log2_self_le (n := m) (by omega)
  have hl1 := Nat.lt_log2_self (n := m)
  have hl : m.log2 < 53 := (Nat.log2_lt (by omega)).2 (by simpa using h)
  rcases Nat.lt_or_ge (m.log2 + k) 52 with h1 | h1
  · have hb : m * 2 ^ k < 4503599627370496 := by
      have h2 : m * 2 ^ k < 2 ^ (m.log2 + 1) * 2 ^ k := Nat.mul_lt_mul_of_pos_right hl1 (Nat.two_pow_pos _)
      rw [← Nat.pow_add] at h2
      have h3 : 2 ^ (m.log2 + 1 + k) ≤ 2 ^ 52 := Nat.pow_le_pow_right (by omega) (by omega)
      have h4 : (2 : Nat) ^ 52 = 4503599627370496 := by decide
      omega
    refine ⟨m * 2 ^ k, Nat.mul_pos h0 (Nat.two_pow_pos _), by omega, ?_⟩
    unfold mg; rw [if_pos hb]
  · have hM0 : 4503599627370496 ≤ m * 2 ^ (52 - m.log2) := by
      have h2 : 2 ^ m.log2 * 2 ^ (52 - m.log2) ≤ m * 2 ^ (52 - m.log2) := Nat.mul_le_mul_right _ hl0
      rw [← Nat.pow_add, show m.log2 + (52 - m.log2) = 52 by omega] at h2
      have h4 : (2 : Nat) ^ 52 = 4503599627370496 := by decide
      omega
    have hM1 : m * 2 ^ (52 - m.log2) < 9007199254740992 := by
      have h2 : m * 2 ^ (52 - m.log2) < 2 ^ (m.log2 + 1) * 2 ^ (52 - m.log2) := Nat.mul_lt_mul_of_pos_right hl1 (Nat.two_pow_pos _)
      rw [← Nat.pow_add, show m.log2 + 1 + (52 - m.log2) = 53 by omega] at h2
      have h4 : (2 : Nat) ^ 53 = 9007199254740992 := by decide
      omega
    have hq : m * 2 ^ k = (m * 2 ^ (52 - m.log2)) * 2 ^ (m.log2 + k - 52) := by
      rw [Nat.mul_assoc, ← Nat.pow_add]; congr 2; omega
    rw [hq]
    generalize m * 2 ^ (52 - m.log2) = M at hM0 hM1
    refine ⟨(m.log2 + k - 52 + 1) * 4503599627370496 + (M - 4503599627370496), by omega, by omega, ?_⟩
    have hle : m.log2 + k - 52 ≤ 2045 := by omega
    generalize m.log2 + k - 52 = q at hle
    unfold mg
    rw [if_neg (by omega)]
    have e1 : ((q + 1) * 4503599627370496 + (M - 4503599627370496)) % 4503599627370496 = M - 4503599627370496 := by omega
    have e2 : ((q + 1) * 4503599627370496 + (M - 4503599627370496)) / 4503599627370496 = q + 1 := by omega
    rw [e1, e2, show 4503599627370496 + (M - 4503599627370496) = M by omega, show q + 1 - 1 = q by omega]

/-- The word of a sign and a rung. -/
theorem word_of (w : Nat) (h : w < 18446744073709551616) : double.word (sg w) (rg w) = w := by
  have h1 : double.signWeight = 9223372036854775808 := by decide
  unfold Format.word sg rg
  rw [h1]
  by_cases h2 : w < 9223372036854775808
  · have e : w / 9223372036854775808 = 0 := by omega
    rw [e]; simp; omega
  · have e : w / 9223372036854775808 = 1 := by omega
    rw [e]; simp; omega

theorem sg_eq (w : Nat) (h : w < 18446744073709551616) : sg w = decide (9223372036854775808 ≤ w) := by
  unfold sg
  by_cases h2 : w < 9223372036854775808
  · have e : w / 9223372036854775808 = 0 := by omega
    rw [e]; simp; omega
  · have e : w / 9223372036854775808 = 1 := by omega
    rw [e]; simp; omega

theorem sr_eq (w : Nat) (h : w < 18446744073709551616) : sr w = if 9223372036854775808 ≤ w then 9223372036854775808 - (w : Int) else (w : Int) := by
  unfold sr rg
  rw [sg_eq w h]
  by_cases h2 : 9223372036854775808 ≤ w
  · simp only [h2, decide_true, if_true]; omega
  · simp only [h2, decide_false, if_false, Bool.false_eq_true]; omega

/-- A finite number with a nought more is the same. -/
theorem add_nought (x z : Nat) (hx : x < 18446744073709551616) (hf : rg x < 9218868437227405312) (hz : rg z = 0) :
    ∃ r, double.add x z = some r ∧ r < 18446744073709551616 ∧ ¬ isN r ∧ sr r = sr x := by
  obtain ⟨m, p, e1, hp, hm⟩ := read_num x hf
  obtain ⟨n, q, e2, hq, hn⟩ := read_num z (by omega)
  rw [hz, mg_zero] at hn
  have hn0 : n = 0 := by
    rcases Nat.mul_eq_zero.1 hn with h | h
    · exact h
    · have := Nat.two_pow_pos (q + 1074).toNat; omega
  subst hn0
  have hr : double.add x z = some (double.write (.number (if signed (sg x) m (p - min p q).toNat + signed (sg z) 0 (q - min p q).toNat = 0 then sg x && sg z else decide (signed (sg x) m (p - min p q).toNat + signed (sg z) 0 (q - min p q).toNat < 0)) (signed (sg x) m (p - min p q).toNat + signed (sg z) 0 (q - min p q).toNat).natAbs (min p q))) := by
    unfold Format.add
    rw [e1, e2]
    rfl
  refine ⟨_, hr, ?_, write_notN _ rfl, ?_⟩
  · have := double.write_lt (.number (if signed (sg x) m (p - min p q).toNat + signed (sg z) 0 (q - min p q).toNat = 0 then sg x && sg z else decide (signed (sg x) m (p - min p q).toNat + signed (sg z) 0 (q - min p q).toNat < 0)) (signed (sg x) m (p - min p q).toNat + signed (sg z) 0 (q - min p q).toNat).natAbs (min p q))
    have h64 : 2 ^ double.width = 18446744073709551616 := by decide
    omega
  have z0 : ∀ k, signed (sg z) 0 k = 0 := fun k => by unfold signed; simp
  rw [z0, Int.add_zero]
  have hb : -1074 ≤ min p q := by omega
  have sc := scale m p (min p q) (sg x) hb (by omega) _ hm
  by_cases h0 : rg x = 0
  · have hm0 : m = 0 := by
      rw [h0, mg_zero] at hm
      rcases Nat.mul_eq_zero.1 hm with h | h
      · exact h
      · have := Nat.two_pow_pos (p + 1074).toNat; omega
    subst hm0
    have z1 : ∀ k, signed (sg x) 0 k = 0 := fun k => by unfold signed; simp
    rw [z1]
    simp only [if_true, Int.natAbs_zero, Format.write, Format.nearest]
    have e3 : ∀ b, sr (double.word b 0) = 0 := by intro b; unfold sr; rw [word_rg _ _ (by decide)]; cases sg (double.word b 0) <;> rfl
    rw [e3]
    unfold sr; rw [h0]; cases sg x <;> rfl
  · have hM : 0 < mg (rg x) := by have := mg_lt (r := 0) (s := rg x) (by omega); rw [mg_zero] at this; exact this
    have hP := Nat.two_pow_pos (min p q + 1074).toNat
    have hsg : signed (sg x) m (p - min p q).toNat = if sg x then -((m * 2 ^ (p - min p q).toNat : Nat) : Int) else ((m * 2 ^ (p - min p q).toNat : Nat) : Int) := by
      unfold signed; simp only [Nat.shiftLeft_eq]
    have hm0 : m ≠ 0 := by rintro rfl; omega
    have hK : 0 < m * 2 ^ (p - min p q).toNat := Nat.mul_pos (by omega) (Nat.two_pow_pos _)
    have hnz : signed (sg x) m (p - min p q).toNat ≠ 0 := by
      rw [hsg]; generalize m * 2 ^ (p - min p q).toNat = K at hK; clear sc hsg; cases sg x <;> simp only [Bool.false_eq_true, if_false, if_true] <;> omega
    rw [if_neg hnz]
    have hab : (signed (sg x) m (p - min p q).toNat).natAbs = m * 2 ^ (p - min p q).toNat := by
      rw [hsg]; generalize m * 2 ^ (p - min p q).toNat = K at hK; clear sc hsg; cases sg x <;> simp only [Bool.false_eq_true, if_false, if_true] <;> omega
    have hsd : decide (signed (sg x) m (p - min p q).toNat < 0) = sg x := by
      rw [hsg]; generalize m * 2 ^ (p - min p q).toNat = K at hK; clear sc hsg hab hnz; cases sg x <;> simp only [Bool.false_eq_true, if_false, if_true, decide_eq_true_eq, decide_eq_false_iff_not] <;> omega
    rw [hab, hsd]
    simp only [Format.write]
    rw [near_at _ _ _ hb (by omega)]
    rw [Nat.mul_assoc, ← Nat.pow_add, show (p - min p q).toNat + (min p q + 1074).toNat = (p + 1074).toNat by omega, hm, near_mg _ _ (by omega) hf, word_of x hx]

/-- A whole number that is not nought as a float: finite, not nought, of its sign. -/
theorem near_whole (s : Bool) (m : Nat) (h0 : 0 < m) (h : m ≤ 9223372036854775808) :
    0 < rg (double.nearest s m 0) ∧ rg (double.nearest s m 0) < 9218868437227405312 ∧ sg (double.nearest s m 0) = s := by
  have hf : double.fractionBits = 52 := rfl
  have h4 : double.leastPlace = -1074 := by decide
  have h5 : double.binade = 4503599627370496 := by decide
  have h6 : double.infRung = 9218868437227405312 := by decide
  have hl1 := Nat.lt_log2_self (n := m)
  have h64 : (2 : Nat) ^ 64 = 18446744073709551616 := by decide
  have hl : m.log2 < 64 := (Nat.log2_lt (by omega)).2 (by omega)
  unfold Format.nearest
  rw [if_neg (by omega)]
  dsimp only
  rw [hf, h4, h5, h6]
  have el : max (0 + (m.log2 : Int) - ((52 : Nat) : Int)) (-1074) = (m.log2 : Int) - 52 := by omega
  rw [el]
  have hk : Toward.even.cut s (m <<< (0 - ((m.log2 : Int) - 52)).toNat) ((m.log2 : Int) - 52 - 0).toNat ≤ 9007199254740992 := by
    rcases Nat.lt_or_ge m.log2 52 with h1 | h1
    · have e1 : ((m.log2 : Int) - 52 - 0).toNat = 0 := by omega
      rw [e1, cut_zero, Nat.shiftLeft_eq]
      have h2 : m * 2 ^ (0 - ((m.log2 : Int) - 52)).toNat < 2 ^ (m.log2 + 1) * 2 ^ (0 - ((m.log2 : Int) - 52)).toNat := Nat.mul_lt_mul_of_pos_right hl1 (Nat.two_pow_pos _)
      rw [← Nat.pow_add, show m.log2 + 1 + (0 - ((m.log2 : Int) - 52)).toNat = 53 by omega] at h2
      have h4 : (2 : Nat) ^ 53 = 9007199254740992 := by decide
      omega
    · have e1 : (0 - ((m.log2 : Int) - 52)).toNat = 0 := by omega
      have e2 : ((m.log2 : Int) - 52 - 0).toNat = m.log2 - 52 := by omega
      rw [e1, e2, Nat.shiftLeft_zero, cut_even _ _ _ (by omega)]
      have h2 : m / 2 ^ (m.log2 - 52) < 9007199254740992 := by
        refine Nat.div_lt_of_lt_mul ?_
        have h3 : (2 : Nat) ^ 53 = 9007199254740992 := by decide
        rw [← h3, ← Nat.pow_add, show m.log2 - 52 + 53 = m.log2 + 1 by omega]
        exact hl1
      unfold rhe
      split <;> omega
  generalize Toward.even.cut s (m <<< (0 - ((m.log2 : Int) - 52)).toNat) ((m.log2 : Int) - 52 - 0).toNat = K at hk
  have hr : (((m.log2 : Int) - 52 - -1074).toNat * 4503599627370496 + K) < 9218868437227405312 := by omega
  rw [Nat.min_eq_left (by omega), word_rg _ _ (by omega), word_sg _ _ (by omega)]
  exact ⟨by omega, hr, rfl⟩

theorem near_zero (s : Bool) : double.nearest s 0 0 = double.word s 0 := rfl

/-- Something of itself. -/
theorem div_self (x : Nat) (h0 : 0 < rg x) (h : rg x < 9218868437227405312) : double.div x x = some 4607182418800017408 := by
  obtain ⟨m, p, e1, hp, hm⟩ := read_num x h
  have hM : 0 < mg (rg x) := by have := mg_lt (r := 0) (s := rg x) h0; rw [mg_zero] at this; exact this
  have hm0 : m ≠ 0 := by rintro rfl; omega
  unfold Format.div
  rw [e1]
  have hb : double.fractionBits = 52 := rfl
  simp only [Datum.quotient, hb]
  rw [if_neg hm0]
  have hl : 52 + 2 + m.log2 - m.log2 = 54 := by omega
  simp only [hl, Nat.shiftLeft_eq]
  rw [Nat.mul_div_cancel_left _ (by omega), Nat.mul_mod_right]
  have hpp : p - p - ((54 : Nat) : Int) - 1 = -55 := by omega
  have hx : (sg x ^^ sg x) = false := by cases sg x <;> rfl
  rw [hpp, hx]
  decide

/-- Something of nothing. -/
theorem div_nought (x z : Nat) (h0 : 0 < rg x) (h : rg x < 9218868437227405312) (hz : rg z = 0) : double.div x z = some (double.word (sg x ^^ sg z) 9218868437227405312) := by
  obtain ⟨m, p, e1, hp, hm⟩ := read_num x h
  obtain ⟨n, q, e2, hq, hn⟩ := read_num z (by omega)
  have hM : 0 < mg (rg x) := by have := mg_lt (r := 0) (s := rg x) h0; rw [mg_zero] at this; exact this
  have hm0 : m ≠ 0 := by rintro rfl; omega
  rw [hz, mg_zero] at hn
  have hn0 : n = 0 := by
    rcases Nat.mul_eq_zero.1 hn with h | h
    · exact h
    · have := Nat.two_pow_pos (q + 1074).toNat; omega
  subst hn0
  unfold Format.div
  rw [e1, e2]
  simp only [Datum.quotient, if_true]
  rw [if_neg hm0]
  rfl

/-- Something finite nought times. -/
theorem mul_nought (x z : Nat) (h : rg x < 9218868437227405312) (hz : rg z = 0) : ∃ r, double.mul x z = some r ∧ rg r = 0 := by
  obtain ⟨m, p, e1, hp, hm⟩ := read_num x h
  obtain ⟨n, q, e2, hq, hn⟩ := read_num z (by omega)
  rw [hz, mg_zero] at hn
  have hn0 : n = 0 := by
    rcases Nat.mul_eq_zero.1 hn with h | h
    · exact h
    · have := Nat.two_pow_pos (q + 1074).toNat; omega
  subst hn0
  unfold Format.mul
  rw [e1, e2]
  simp only [Datum.product, Nat.mul_zero, Option.map_some]
  refine ⟨_, rfl, ?_⟩
  simp only [Format.write, Format.nearest, if_true]
  exact word_rg _ _ (by decide)
end Go.Proofs.YtllcpggdfdnjcacDoor
