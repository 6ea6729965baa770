/- What each call does to a disk, said once, and that both disks do it. -/
import Derived.Test.YtemhhgpgpjiijaaFails
import Derived.Test.YtemhhgpgpjiijaaRefSet
namespace Go.Proofs.Ytemhhgpgpjiijaa
open Go.RowKit Go.Maps

def aWrite (S : St) (b : Int) (n : Nat) (xs : List Int) : Int × Int × St :=
  if ¬ (0 ≤ b ∧ b < S.N) ∨ n ≠ 128 then (0, 1, S)
  else if (S.q.any fun y => (y.block : Int) == b) = true then (0, 21, S)
  else if 64 ≤ S.q.length then (0, 3, S)
  else (S.last + 1, 0, S.put b.toNat xs)
def aDone (S : St) (id : Int) (ok : Bool) : Int × St :=
  match S.q.findIdx? (fun y => y.id == id) with
  | none => (20, S)
  | some i => match S.q[i]? with
    | none => (20, S)
    | some y => (if ok then 0 else 4, S.done i y ok)
def aRead (S : St) (b : Int) : Nat × List Int × Int × St :=
  if ¬ (0 ≤ b ∧ b < S.N) then (0, [], 1, S)
  else if 0 < S.fl b.toNat then (0, [], 4, { S with fl := upd S.fl b.toNat (S.fl b.toNat - 1) })
  else (128, S.f b.toNat, 0, S)
def aFail (S : St) (b t : Int) : Int × St :=
  if ¬ (0 ≤ b ∧ b < S.N) ∨ t < 0 ∨ 1000 < t then (1, S) else (0, { S with fl := upd S.fl b.toNat t })
def aCrash (S : St) (ids : List Int) : Int × St :=
  if ids.all (fun id => (S.q.findIdx? (fun y => y.id == id)).isSome) = true then (0, { S with q := [], f := ids.foldl (crash1 S.q) S.f, fl := fun _ => 0 }) else (20, S)

section
variable {B : Nat} {w w' : World} {a mb fb : Nat} {dq : Value} {S : St}

theorem foot_new {dq' : Value} {H : Nat} (hq : ∀ k, dq'.ownBlock = some k → dq.ownBlock = some k ∨ H ≤ k) : ∀ k, foot a mb fb dq' k → foot a mb fb dq k ∨ H ≤ k := by
  rintro k (e | e | e | e)
  · exact .inl (.inl e)
  · exact .inl (.inr (.inl e))
  · exact .inl (.inr (.inr (.inl e)))
  · rcases hq k e with h | h
    · exact .inl (.inr (.inr (.inr h)))
    · exact .inr h

theorem dWrite (h : DI B w a mb fb dq S) (hB : B ≤ w.heap.size) (b : Int) (p : Option Addr) (n c : Nat) (xs : List Int) (hx : BI w p n xs) (hl : S.last < 9223372036854775807) :
    Calls Try.prog 22 #[.pointer (some ⟨a, 0, none⟩), .int .i64 b, .slice p n c] w fun e w' => ∃ dq', e = .returned (.tuple #[.int .i64 (aWrite S b n xs).1, .int .i64 (aWrite S b n xs).2.1]) ∧ DI B w' a mb fb dq' (aWrite S b n xs).2.2 ∧ Frame (foot a mb fb dq) w w' ∧ ∀ k, foot a mb fb dq' k → foot a mb fb dq k ∨ w.heap.size ≤ k := by
  unfold aWrite
  by_cases h1 : ¬ (0 ≤ b ∧ b < S.N) ∨ n ≠ 128
  · rw [if_pos h1]
    exact (write_arg h b p n c h1).mono fun e w' ⟨he, hw⟩ => ⟨dq, he, hw ▸ h, hw ▸ Frame.refl _ _, fun _ h => .inl h⟩
  · rw [if_neg h1]
    obtain ⟨b, rfl⟩ : ∃ m : Nat, b = m := ⟨b.toNat, by omega⟩
    obtain rfl : n = 128 := by omega
    have hb : b < S.N := by omega
    by_cases h2 : (S.q.any fun y => (y.block : Int) == (b : Int)) = true
    · rw [if_pos h2]
      exact (write_busy h b p c hb h2).mono fun e w' ⟨he, hb'⟩ => ⟨dq, he, h.later hb', frame_of_below hb', fun _ h => .inl h⟩
    · rw [if_neg h2]
      have h2' : (S.q.any fun y => (y.block : Int) == (b : Int)) = false := by simpa using h2
      by_cases h3 : 64 ≤ S.q.length
      · rw [if_pos h3]
        exact (write_full h b p c hb h2' h3).mono fun e w' ⟨he, hb'⟩ => ⟨dq, he, h.later hb', frame_of_below hb', fun _ h => .inl h⟩
      · rw [if_neg h3]
        exact (write_new h hB b p c xs hx hb h2' (by omega) hl).mono fun e w' ⟨q', he, hd, hf, ho⟩ => ⟨q', he, hd, hf, foot_new (fun k hk => by
          rcases ho with e | ⟨m, e, hm⟩
          · exact .inl (by rw [← e]; exact hk)
          · rw [e] at hk
            cases hk
            exact .inr hm)⟩

theorem dDone (h : DI B w a mb fb dq S) (id : Int) (ok : Bool) :
    Calls Try.prog 15 #[.pointer (some ⟨a, 0, none⟩), .int .i64 id, .bool ok] w fun e w' => ∃ dq', e = .returned (.int .i64 (aDone S id ok).1) ∧ DI B w' a mb fb dq' (aDone S id ok).2 ∧ Frame (foot a mb fb dq) w w' ∧ ∀ k, foot a mb fb dq' k → foot a mb fb dq k ∨ w.heap.size ≤ k := by
  unfold aDone
  cases hi : S.q.findIdx? (fun y => y.id == id) with
  | none => exact (complete_none h id ok hi).mono fun e w' ⟨he, hb'⟩ => ⟨dq, he, h.later hb', frame_of_below hb', fun _ h => .inl h⟩
  | some i =>
    obtain ⟨y, hy, _⟩ := find_of_idx hi
    simp only [hy]
    exact (complete_some h id ok i y hi hy).mono fun e w' ⟨q', he, hd, hf, ho⟩ => ⟨q', he, hd, hf, foot_new (fun k hk => .inl (by rw [← ho]; exact hk))⟩

theorem dCrash (h : DI B w a mb fb dq S) (p : Option Addr) (n c : Nat) (ids : List Int) (hI : II w p n ids) (hII : ∀ k, foot a mb fb dq k → ∀ b o, p = some ⟨b, o, none⟩ → 0 < n → b ≠ k) :
    Calls Try.prog 10 #[.pointer (some ⟨a, 0, none⟩), .slice p n c] w fun e w' => ∃ dq', e = .returned (.int .i64 (aCrash S ids).1) ∧ DI B w' a mb fb dq' (aCrash S ids).2 ∧ Frame (foot a mb fb dq) w w' ∧ ∀ k, foot a mb fb dq' k → foot a mb fb dq k ∨ w.heap.size ≤ k := by
  unfold aCrash
  by_cases h1 : ids.all (fun id => (S.q.findIdx? (fun y => y.id == id)).isSome) = true
  · rw [if_pos h1]
    exact (crash_ok h p n c ids hI hII (fun id hid => Option.isSome_iff_exists.1 (List.all_eq_true.1 h1 id hid))).mono fun e w' ⟨he, hd, hf⟩ => ⟨_, he, hd, hf, foot_new (fun k hk => by cases hk)⟩
  · rw [if_neg h1]
    have h2 : ∃ id ∈ ids, S.q.findIdx? (fun y => y.id == id) = none := by
      simp only [List.all_eq_true, Classical.not_forall] at h1
      obtain ⟨id, hid, hn⟩ := h1
      exact ⟨id, hid, by simpa using hn⟩
    exact (crash_none h p n c ids hI h2).mono fun e w' ⟨he, hb'⟩ => ⟨dq, he, h.later hb', frame_of_below hb', fun _ h => .inl h⟩
end

section
variable {B : Nat} {w w' : World} {x : Nat} {bv qv fv : Value} {gB gQ : List (Nat × Nat)} {S : St}

theorem rWrite (h : RI B w x bv qv fv gB gQ S) (hS : Ok S) (hB : B ≤ w.heap.size) (b : Int) (p : Option Addr) (n c : Nat) (xs : List Int) (hx : BI w p n xs) (hl : S.last < 9223372036854775807) :
    Calls Try.prog 23 #[.pointer (some ⟨x, 0, none⟩), .int .i64 b, .slice p n c] w fun e w' => ∃ qv' gQ', e = .returned (.tuple #[.int .i64 (aWrite S b n xs).1, .int .i64 (aWrite S b n xs).2.1]) ∧ RI B w' x bv qv' fv gB gQ' (aWrite S b n xs).2.2 ∧ Frame (rfoot x bv qv fv) w w' ∧ (∀ k, rrows gB gQ' k → rrows gB gQ k ∨ w.heap.size ≤ k) ∧ ∀ k, rfoot x bv qv' fv k → rfoot x bv qv fv k ∨ w.heap.size ≤ k := by
  unfold aWrite
  by_cases h1 : ¬ (0 ≤ b ∧ b < S.N) ∨ n ≠ 128
  · rw [if_pos h1]
    exact (rwrite_arg h b p n c h1).mono fun e w' ⟨he, hw⟩ => ⟨qv, gQ, he, hw ▸ h, hw ▸ Frame.refl _ _, fun k hk => .inl hk, fun _ h => .inl h⟩
  · rw [if_neg h1]
    obtain ⟨b, rfl⟩ : ∃ m : Nat, b = m := ⟨b.toNat, by omega⟩
    obtain rfl : n = 128 := by omega
    have hb : b < S.N := by omega
    refine (rwrite_ok h hS hB b p c xs hx hb hl).mono fun e w' hh => ?_
    rcases hh with ⟨h2, he, hb'⟩ | ⟨h2, h3, he, hb'⟩ | ⟨h2, h3, qv', gQ', he, hr, hf, hk, hk2⟩
    · rw [if_pos h2]
      exact ⟨qv, gQ, he, h.later hb', frame_of_below hb', fun k hk => .inl hk, fun _ h => .inl h⟩
    · rw [if_neg (by rw [h2]; decide), if_pos h3]
      exact ⟨qv, gQ, he, h.later hb', frame_of_below hb', fun k hk => .inl hk, fun _ h => .inl h⟩
    · rw [if_neg (by rw [h2]; decide), if_neg (by omega)]
      exact ⟨qv', gQ', he, hr, hf, hk, hk2⟩

end

theorem aWrite_last (S : St) (b : Int) (n : Nat) (xs : List Int) : (aWrite S b n xs).2.2.last ≤ S.last + 1 := by
  unfold aWrite
  split
  · show S.last ≤ _; omega
  · split
    · show S.last ≤ _; omega
    · split
      · show S.last ≤ _; omega
      · exact Int.le_refl _
theorem aDone_last (S : St) (id : Int) (ok : Bool) : (aDone S id ok).2.last = S.last := by
  unfold aDone
  split
  · rfl
  · split <;> rfl
theorem aRead_last (S : St) (b : Int) : (aRead S b).2.2.2.last = S.last := by
  unfold aRead
  split
  · rfl
  · split <;> rfl
theorem aFail_last (S : St) (b t : Int) : (aFail S b t).2.last = S.last := by
  unfold aFail
  split <;> rfl
theorem aCrash_last (S : St) (ids : List Int) : (aCrash S ids).2.last = S.last := by
  unfold aCrash
  split <;> rfl
theorem aRead_byt (S : St) (hS : Ok S) (b : Int) : Num.Byt (aRead S b).2.1 ∧ (aRead S b).1 ≤ 128 := by
  unfold aRead
  split
  · exact ⟨fun i => by simp, by simp⟩
  · split
    · exact ⟨fun i => by simp, by simp⟩
    · exact ⟨(hS.sec _).2, Nat.le_refl _⟩
end Go.Proofs.Ytemhhgpgpjiijaa
