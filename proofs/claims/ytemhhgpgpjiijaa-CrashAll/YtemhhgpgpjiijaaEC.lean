/- crash.subsets and crash.sets: what they give; the walk of the sets. -/
import Derived.Test.YtemhhgpgpjiijaaEB
namespace Go.Proofs.Ytemhhgpgpjiijaa
open Go.RowKit Go.Shelf
set_option linter.unusedVariables false
attribute [local go_sem] Oper.semAt_some

/-- How many sets there are. -/
def al (n : Nat) : Int := ((2 ^ min n 12 : Nat) : Int)

theorem al_le (n : Nat) : 1 ≤ al n ∧ al n ≤ 4096 := by
  unfold al
  have h1 : 2 ^ min n 12 ≤ 2 ^ 12 := Nat.pow_le_pow_right (by omega) (by omega)
  have h2 : 1 ≤ 2 ^ min n 12 := Nat.one_le_two_pow
  have h3 : (2 : Nat) ^ 12 = 4096 := by decide
  rw [h3] at h1
  omega

theorem wrap_al {n : Nat} (h : (n : Int) ≤ 12) : wrap64 (2 ^ n) = al n := by
  have h1 := al_le n
  unfold al at *
  rw [Nat.min_eq_left (by omega)] at *
  have e : ((2 : Int) ^ n) = ((2 ^ n : Nat) : Int) := by simp
  rw [e]
  unfold wrap64
  omega

theorem wrap_al' {n : Nat} (h : 12 < (n : Int)) : wrap64 4096 = al n := by
  unfold al
  rw [Nat.min_eq_right (by omega)]
  unfold wrap64
  decide

/-- Three boxes: a list, how many sets at most, how many there are. -/
structure Bx (w' : World) (H : Nat) (p : Option Addr) (n c : Nat) (most : Int) : Prop where
  b0 : Boxed w' H 37 (.slice p n c)
  b1 : Boxed w' (H + 1) 3 (.int .i64 most)
  b2 : Boxed w' (H + 1 + 1) 3 (.int .i64 (al n))

/-- What stands for the sets. -/
def sq (H : Nat) : Value := .func (.func 57) #[] #[.pointer (some ⟨H + 1, 0, none⟩), .pointer (some ⟨H + 1 + 1, 0, none⟩), .pointer (some ⟨H, 0, none⟩)]

theorem bx_made (w : World) (p : Option Addr) (n c : Nat) (most : Int) : Bx (((w.alloc (Obj.cells #[.slice p n c] 37)).alloc (Obj.cells #[.int .i64 most] 3)).alloc (Obj.cells #[.int .i64 (al n)] 3)) w.heap.size p n c most := by
  refine ⟨((Boxed.new w 37 _).alloc _).alloc _, ?_, ?_⟩
  · have := (Boxed.new (w.alloc (Obj.cells #[.slice p n c] 37)) 3 (.int .i64 most)).alloc (Obj.cells #[.int .i64 (al n)] 3)
    rwa [World.size_alloc] at this
  · have := Boxed.new ((w.alloc (Obj.cells #[.slice p n c] 37)).alloc (Obj.cells #[.int .i64 most] 3)) 3 (.int .i64 (al n))
    rwa [World.size_alloc, World.size_alloc] at this

set_option maxHeartbeats 1000000 in
theorem subsets_ok (p : Option Addr) (n c : Nat) (most : Int) (hn : n ≤ 64) (w : World) :
    Calls Try.prog 49 #[.slice p n c, .int .i64 most] w fun e w' => e = .returned (sq w.heap.size) ∧ Bx w' w.heap.size p n c most ∧ w'.heap.size = w.heap.size + 3 ∧ Below w.heap.size w w' := by
  have hb : ∀ o1 o2 o3, Below w.heap.size w (((w.alloc o1).alloc o2).alloc o3) := fun o1 o2 o3 => (((Below.refl _ w).alloc (Nat.le_refl _) _).alloc (by simp) _).alloc (by simp; omega) _
  have hx := bx_made w p n c most
  have HB := (show Hid _ from hb)
  have HX := (show Hid _ from hx)
  clear hb hx
  go_enter Try.func49, Try.ntmps49
  go_wp2
  · have e := wrap_al' (n := n) (by assumption)
    go_ret
    refine ⟨rfl, ?_, by simp, HB.out _ _ _⟩
    have := HX.out
    rw [← e] at this
    exact this
  · have e := wrap_al (by assumption)
    go_ret
    rw [e]
    exact ⟨rfl, HX.out, by simp, HB.out _ _ _⟩

theorem cmade_ok {B : Nat} {w : World} {a mb fb : Nat} {qv : Value} {S : St} (h : DI B w a mb fb qv S) : Calls Try.prog 48 #[.pointer (some ⟨a, 0, none⟩)] w fun e w' => e = .returned (.bool true) ∧ w' = w := by
  have h1 := h.N1
  go_enter Try.func48, Try.ntmps48
  go_wp2_with fail
  refine same_at (blocks_ok h) ?_
  go_wp2
  go_ret
  exact ⟨ret_bool (by simp; omega), rfl⟩

theorem ids_rng {B : Nat} {w : World} {a mb fb : Nat} {qv : Value} {S : St} (h : DI B w a mb fb qv S) : ∀ x ∈ S.q.map Wr.id, -9223372036854775808 ≤ x ∧ x ≤ 9223372036854775807 := fun x hx => by
  obtain ⟨y, hy, rfl⟩ := List.mem_map.1 hx
  exact (h.qok y hy).2.2

set_option maxHeartbeats 1000000 in
theorem sets_ok {B : Nat} {w : World} {a mb fb : Nat} {qv : Value} {S : St} (h : DI B w a mb fb qv S) (most : Int) :
    Calls Try.prog 26 #[.pointer (some ⟨a, 0, none⟩), .int .i64 most] w fun e w' => ∃ H p c, e = .returned (sq H) ∧ Bx w' H p S.q.length c most ∧ II w' p S.q.length (S.q.map Wr.id) ∧ (∀ b o, p = some ⟨b, o, none⟩ → b < H) ∧ w.heap.size ≤ H ∧ w'.heap.size = H + 3 ∧ Below w.heap.size w w' := by
  have hq64 := h.q64
  have hr := ids_rng h
  have HR := (show Hid _ from hr)
  clear hr
  go_enter Try.func26, Try.ntmps26
  go_wp2_with fail
  refine same_at (cmade_ok h) ?_
  go_wp2_with fail
  refine (numbers_ok h).mono ?_
  rintro e w1 ⟨v, rfl, ho, hb⟩
  obtain ⟨p, c, rfl, hI, _⟩ := ids_ii ho hq64 HR.out
  have hlt : ∀ b o, p = some ⟨b, o, none⟩ → b < w1.heap.size := fun b o e => (ho.lt b (by rw [e]; rfl)).2
  have HL := (show Hid _ from hlt)
  clear ho hlt
  go_wp2_with fail
  refine (subsets_ok p _ c most hq64 w1).mono ?_
  rintro e w2 ⟨rfl, hx, hs, hb2⟩
  go_wp2
  go_ret
  exact ⟨_, p, c, rfl, hx, hI.kept hb2, HL.out, hb.size, hs, hb.trans (hb2.mono hb.size)⟩
end Go.Proofs.Ytemhhgpgpjiijaa
