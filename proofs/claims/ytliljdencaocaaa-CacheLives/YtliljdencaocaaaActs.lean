/- What each call does to a disk, said once, and that both disks do it. -/
import Derived.Test.YtliljdencaocaaaFails
import Derived.Test.YtliljdencaocaaaRefDone
import Derived.Test.YtliljdencaocaaaRefCrash
namespace Go.Proofs.Ytliljdencaocaaa
open Go.RowKit Go.Maps

def aWrite (S : St) (b : Int) (n : Nat) (xs : List Int) : Int × Int × St :=
  if ¬ (0 ≤ b ∧ b < S.N) ∨ n ≠ 128 then (0, 1, S)
  else if (S.q.any fun y => (y.block : Int) == b) = true then (0, 21, S)
  else if 64 ≤ S.q.length then (0, 3, S)
  else (S.last + 1, 0, S.put b.toNat xs)
def aDone (S : St) (id : Int) (ok : Bool) : Int × St :=
  match S.q.findIdx? (fun y => y.id == id) with
  | none => (20, S)
  | some i => match S.q[i]? with
    | none => (20, S)
    | some y => (if ok then 0 else 4, S.done i y ok)
def aRead (S : St) (b : Int) : Nat × List Int × Int × St :=
  if ¬ (0 ≤ b ∧ b < S.N) then (0, [], 1, S)
  else if 0 < S.fl b.toNat then (0, [], 4, { S with fl := upd S.fl b.toNat (S.fl b.toNat - 1) })
  else (128, S.f b.toNat, 0, S)
def aFail (S : St) (b t : Int) : Int × St :=
  if ¬ (0 ≤ b ∧ b < S.N) ∨ t < 0 ∨ 1000 < t then (1, S) else (0, { S with fl := upd S.fl b.toNat t })
def aCrash (S : St) (ids : List Int) : Int × St :=
  if ids.all (fun id => (S.q.findIdx? (fun y => y.id == id)).isSome) = true then (0, { S with q := [], f := ids.foldl (crash1 S.q) S.f, fl := fun _ => 0 }) else (20, S)

section
variable {B : Nat} {w w' : World} {a mb fb : Nat} {dq : Value} {S : St}

theorem foot_new {dq' : Value} {H : Nat} (hq : ∀ k, dq'.ownBlock = some k → dq.ownBlock = some k ∨ H ≤ k) : ∀ k, foot a mb fb dq' k → foot a mb fb dq k ∨ H ≤ k := by
  rintro k (e | e | e | e)
  · exact .inl (.inl e)
  · exact .inl (.inr (.inl e))
  · exact .inl (.inr (.inr (.inl e)))
  · rcases hq k e with h | h
    · exact .inl (.inr (.inr (.inr h)))
    · exact .inr h

theorem dWrite (h : DI B w a mb fb dq S) (hB : B ≤ w.heap.size) (b : Int) (p : Option Addr) (n c : Nat) (xs : List Int) (hx : BI w p n xs) (hl : S.last < 9223372036854775807) :
    Calls Try.prog 32 #[.pointer (some ⟨a, 0, none⟩), .int .i64 b, .slice p n c] w fun e w' => ∃ dq', e = .returned (.tuple #[.int .i64 (aWrite S b n xs).1, .int .i64 (aWrite S b n xs).2.1]) ∧ DI B w' a mb fb dq' (aWrite S b n xs).2.2 ∧ Frame (foot a mb fb dq) w w' ∧ ∀ k, foot a mb fb dq' k → foot a mb fb dq k ∨ w.heap.size ≤ k := by
  unfold aWrite
  by_cases h1 : ¬ (0 ≤ b ∧ b < S.N) ∨ n ≠ 128
  · rw [if_pos h1]
    exact (write_arg h b p n c h1).mono fun e w' ⟨he, hw⟩ => ⟨dq, he, hw ▸ h, hw ▸ Frame.refl _ _, fun _ h => .inl h⟩
  · rw [if_neg h1]
    obtain ⟨b, rfl⟩ : ∃ m : Nat, b = m := ⟨b.toNat, by omega⟩
    obtain rfl : n = 128 := by omega
    have hb : b < S.N := by omega
    by_cases h2 : (S.q.any fun y => (y.block : Int) == (b : Int)) = true
    · rw [if_pos h2]
      exact (write_busy h b p c hb h2).mono fun e w' ⟨he, hb'⟩ => ⟨dq, he, h.later hb', frame_of_below hb', fun _ h => .inl h⟩
    · rw [if_neg h2]
      have h2' : (S.q.any fun y => (y.block : Int) == (b : Int)) = false := by simpa using h2
      by_cases h3 : 64 ≤ S.q.length
      · rw [if_pos h3]
        exact (write_full h b p c hb h2' h3).mono fun e w' ⟨he, hb'⟩ => ⟨dq, he, h.later hb', frame_of_below hb', fun _ h => .inl h⟩
      · rw [if_neg h3]
        exact (write_new h hB b p c xs hx hb h2' (by omega) hl).mono fun e w' ⟨q', he, hd, hf, ho⟩ => ⟨q', he, hd, hf, foot_new (fun k hk => by
          rcases ho with e | ⟨m, e, hm⟩
          · exact .inl (by rw [← e]; exact hk)
          · rw [e] at hk
            cases hk
            exact .inr hm)⟩

theorem dDone (h : DI B w a mb fb dq S) (id : Int) (ok : Bool) :
    Calls Try.prog 34 #[.pointer (some ⟨a, 0, none⟩), .int .i64 id, .bool ok] w fun e w' => ∃ dq', e = .returned (.int .i64 (aDone S id ok).1) ∧ DI B w' a mb fb dq' (aDone S id ok).2 ∧ Frame (foot a mb fb dq) w w' ∧ ∀ k, foot a mb fb dq' k → foot a mb fb dq k ∨ w.heap.size ≤ k := by
  unfold aDone
  cases hi : S.q.findIdx? (fun y => y.id == id) with
  | none => exact (complete_none h id ok hi).mono fun e w' ⟨he, hb'⟩ => ⟨dq, he, h.later hb', frame_of_below hb', fun _ h => .inl h⟩
  | some i =>
    obtain ⟨y, hy, _⟩ := find_of_idx hi
    simp only [hy]
    exact (complete_some h id ok i y hi hy).mono fun e w' ⟨q', he, hd, hf, ho⟩ => ⟨q', he, hd, hf, foot_new (fun k hk => .inl (by rw [← ho]; exact hk))⟩

theorem dRead (h : DI B w a mb fb dq S) (b : Int) :
    Calls Try.prog 24 #[.pointer (some ⟨a, 0, none⟩), .int .i64 b] w fun e w' => ∃ p c, e = .returned (.tuple #[.slice p (aRead S b).1 c, .int .i64 (aRead S b).2.2.1]) ∧ w'.ownsRow w.heap.size 5 1 (.slice p (aRead S b).1 c) (aRead S b).1 ((aRead S b).2.1.map (Value.int .u8)) ∧ DI B w' a mb fb dq (aRead S b).2.2.2 ∧ Frame (foot a mb fb dq) w w' := by
  unfold aRead
  by_cases h1 : ¬ (0 ≤ b ∧ b < S.N)
  · rw [if_pos h1]
    exact (read_arg h b h1).mono fun e w' ⟨he, hw⟩ => ⟨none, 0, he, World.ownsRow_nil _ _ _ _, hw ▸ h, hw ▸ Frame.refl _ _⟩
  · rw [if_neg h1]
    obtain ⟨b, rfl⟩ : ∃ m : Nat, b = m := ⟨b.toNat, by omega⟩
    have hb : b < S.N := by omega
    simp only [Int.toNat_natCast]
    by_cases h2 : 0 < S.fl b
    · rw [if_pos h2]
      exact (read_fails h b hb h2).mono fun e w' ⟨he, hd, hf⟩ => ⟨none, 0, he, World.ownsRow_nil _ _ _ _, hd, hf⟩
    · rw [if_neg h2]
      have h0 : S.fl b = 0 := by have := h.fls.all b; omega
      exact (read_ok h b hb h0).mono fun e w' ⟨g, he, ho, hb'⟩ => ⟨_, _, he, ho, h.later hb', frame_of_below hb'⟩

theorem dFail (h : DI B w a mb fb dq S) (b t : Int) :
    Calls Try.prog 44 #[.pointer (some ⟨a, 0, none⟩), .int .i64 b, .int .i64 t] w fun e w' => e = .returned (.int .i64 (aFail S b t).1) ∧ DI B w' a mb fb dq (aFail S b t).2 ∧ Frame (foot a mb fb dq) w w' := by
  unfold aFail
  by_cases h1 : ¬ (0 ≤ b ∧ b < S.N) ∨ t < 0 ∨ 1000 < t
  · rw [if_pos h1]
    exact (fail_arg h b t h1).mono fun e w' ⟨he, hw⟩ => ⟨he, hw ▸ h, hw ▸ Frame.refl _ _⟩
  · rw [if_neg h1]
    obtain ⟨b, rfl⟩ : ∃ m : Nat, b = m := ⟨b.toNat, by omega⟩
    simp only [Int.toNat_natCast]
    exact fail_ok h b (by omega) t (by omega)

end

section
variable {B : Nat} {w w' : World} {x : Nat} {bv qv fv : Value} {gB gQ : List (Nat × Nat)} {S : St}

theorem rWrite (h : RI B w x bv qv fv gB gQ S) (hS : Ok S) (hB : B ≤ w.heap.size) (b : Int) (p : Option Addr) (n c : Nat) (xs : List Int) (hx : BI w p n xs) (hl : S.last < 9223372036854775807) :
    Calls Try.prog 33 #[.pointer (some ⟨x, 0, none⟩), .int .i64 b, .slice p n c] w fun e w' => ∃ qv' gQ', e = .returned (.tuple #[.int .i64 (aWrite S b n xs).1, .int .i64 (aWrite S b n xs).2.1]) ∧ RI B w' x bv qv' fv gB gQ' (aWrite S b n xs).2.2 ∧ Frame (rfoot x bv qv fv) w w' ∧ (∀ k, rrows gB gQ' k → rrows gB gQ k ∨ w.heap.size ≤ k) ∧ ∀ k, rfoot x bv qv' fv k → rfoot x bv qv fv k ∨ w.heap.size ≤ k := by
  unfold aWrite
  by_cases h1 : ¬ (0 ≤ b ∧ b < S.N) ∨ n ≠ 128
  · rw [if_pos h1]
    exact (rwrite_arg h b p n c h1).mono fun e w' ⟨he, hw⟩ => ⟨qv, gQ, he, hw ▸ h, hw ▸ Frame.refl _ _, fun k hk => .inl hk, fun _ h => .inl h⟩
  · rw [if_neg h1]
    obtain ⟨b, rfl⟩ : ∃ m : Nat, b = m := ⟨b.toNat, by omega⟩
    obtain rfl : n = 128 := by omega
    have hb : b < S.N := by omega
    refine (rwrite_ok h hS hB b p c xs hx hb hl).mono fun e w' hh => ?_
    rcases hh with ⟨h2, he, hb'⟩ | ⟨h2, h3, he, hb'⟩ | ⟨h2, h3, qv', gQ', he, hr, hf, hk, hk2⟩
    · rw [if_pos h2]
      exact ⟨qv, gQ, he, h.later hb', frame_of_below hb', fun k hk => .inl hk, fun _ h => .inl h⟩
    · rw [if_neg (by rw [h2]; decide), if_pos h3]
      exact ⟨qv, gQ, he, h.later hb', frame_of_below hb', fun k hk => .inl hk, fun _ h => .inl h⟩
    · rw [if_neg (by rw [h2]; decide), if_neg (by omega)]
      exact ⟨qv', gQ', he, hr, hf, hk, hk2⟩

theorem rDone (h : RI B w x bv qv fv gB gQ S) (hS : Ok S) (hB : B ≤ w.heap.size) (id : Int) (ok : Bool) :
    Calls Try.prog 35 #[.pointer (some ⟨x, 0, none⟩), .int .i64 id, .bool ok] w fun e w' => ∃ qv' gB' gQ', e = .returned (.int .i64 (aDone S id ok).1) ∧ RI B w' x bv qv' fv gB' gQ' (aDone S id ok).2 ∧ Frame (rfoot x bv qv fv) w w' ∧ (∀ k, rrows gB' gQ' k → rrows gB gQ k ∨ w.heap.size ≤ k) ∧ ∀ k, rfoot x bv qv' fv k → rfoot x bv qv fv k ∨ w.heap.size ≤ k := by
  unfold aDone
  cases hi : S.q.findIdx? (fun y => y.id == id) with
  | none => exact (rcomplete_none h hS id ok hi).mono fun e w' ⟨he, hb'⟩ => ⟨qv, gB, gQ, he, h.later hb', frame_of_below hb', fun k hk => .inl hk, fun _ h => .inl h⟩
  | some i =>
    obtain ⟨y, hy, _⟩ := find_of_idx hi
    simp only [hy]
    exact rcomplete_some h hS hB id ok i y hi hy

theorem rRead (h : RI B w x bv qv fv gB gQ S) (hS : Ok S) (b : Int) :
    Calls Try.prog 73 #[.pointer (some ⟨x, 0, none⟩), .int .i64 b] w fun e w' => ∃ p c, e = .returned (.tuple #[.slice p (aRead S b).1 c, .int .i64 (aRead S b).2.2.1]) ∧ w'.ownsRow w.heap.size 5 1 (.slice p (aRead S b).1 c) (aRead S b).1 ((aRead S b).2.1.map (Value.int .u8)) ∧ RI B w' x bv qv fv gB gQ (aRead S b).2.2.2 ∧ Frame (rfoot x bv qv fv) w w' := by
  unfold aRead
  by_cases h1 : ¬ (0 ≤ b ∧ b < S.N)
  · rw [if_pos h1]
    exact (rread_arg h b h1).mono fun e w' ⟨he, hw⟩ => ⟨none, 0, he, World.ownsRow_nil _ _ _ _, hw ▸ h, hw ▸ Frame.refl _ _⟩
  · rw [if_neg h1]
    obtain ⟨b, rfl⟩ : ∃ m : Nat, b = m := ⟨b.toNat, by omega⟩
    have hb : b < S.N := by omega
    simp only [Int.toNat_natCast]
    by_cases h2 : 0 < S.fl b
    · rw [if_pos h2]
      exact (rread_fails h hS b hb h2).mono fun e w' ⟨he, hd, hf⟩ => ⟨none, 0, he, World.ownsRow_nil _ _ _ _, hd, hf⟩
    · rw [if_neg h2]
      have h0 : S.fl b = 0 := by have := hS.fl b; omega
      exact (rread_ok h hS b hb h0).mono fun e w' ⟨g, cap, he, ho, hb'⟩ => ⟨_, _, he, ho, h.later hb', frame_of_below hb'⟩

theorem rFail (h : RI B w x bv qv fv gB gQ S) (b t : Int) :
    Calls Try.prog 45 #[.pointer (some ⟨x, 0, none⟩), .int .i64 b, .int .i64 t] w fun e w' => e = .returned (.int .i64 (aFail S b t).1) ∧ RI B w' x bv qv fv gB gQ (aFail S b t).2 ∧ Frame (rfoot x bv qv fv) w w' := by
  unfold aFail
  by_cases h1 : ¬ (0 ≤ b ∧ b < S.N) ∨ t < 0 ∨ 1000 < t
  · rw [if_pos h1]
    exact (rfail_arg h b t h1).mono fun e w' ⟨he, hw⟩ => ⟨he, hw ▸ h, hw ▸ Frame.refl _ _⟩
  · rw [if_neg h1]
    obtain ⟨b, rfl⟩ : ∃ m : Nat, b = m := ⟨b.toNat, by omega⟩
    simp only [Int.toNat_natCast]
    exact rfail_ok h b (by omega) t (by omega)

end

theorem aWrite_last (S : St) (b : Int) (n : Nat) (xs : List Int) : (aWrite S b n xs).2.2.last ≤ S.last + 1 := by
  unfold aWrite
  split
  · show S.last ≤ _; omega
  · split
    · show S.last ≤ _; omega
    · split
      · show S.last ≤ _; omega
      · exact Int.le_refl _
theorem aDone_last (S : St) (id : Int) (ok : Bool) : (aDone S id ok).2.last = S.last := by
  unfold aDone
  split
  · rfl
  · split <;> rfl
theorem aRead_last (S : St) (b : Int) : (aRead S b).2.2.2.last = S.last := by
  unfold aRead
  split
  · rfl
  · split <;> rfl
theorem aFail_last (S : St) (b t : Int) : (aFail S b t).2.last = S.last := by
  unfold aFail
  split <;> rfl
theorem aCrash_last (S : St) (ids : List Int) : (aCrash S ids).2.last = S.last := by
  unfold aCrash
  split <;> rfl
theorem aRead_byt (S : St) (hS : Ok S) (b : Int) : Num.Byt (aRead S b).2.1 ∧ (aRead S b).1 ≤ 128 := by
  unfold aRead
  split
  · exact ⟨fun i => by simp, by simp⟩
  · split
    · exact ⟨fun i => by simp, by simp⟩
    · exact ⟨(hS.sec _).2, Nat.le_refl _⟩
end Go.Proofs.Ytliljdencaocaaa
