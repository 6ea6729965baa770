/- place and busy. -/
import Derived.Test.YtemhhgpgpjiijaaFind
namespace Go.Proofs.Ytemhhgpgpjiijaa
open Go.RowKit Go.Maps

theorem DI.qcase {B : Nat} {w : World} {a mb fb : Nat} {qv : Value} {S : St} (h : DI B w a mb fb qv S) : (qv = .slice none 0 0 ∧ S.q = []) ∨ ∃ g cap, qv = .slice (some ⟨g, 0, none⟩) S.q.length cap := by
  rcases h.que.2 with ⟨h1, h2⟩ | ⟨g, cap, cur, h1, _⟩
  · exact .inl ⟨h1, List.eq_nil_of_length_eq_zero h2⟩
  · exact .inr ⟨g, cap, h1⟩

theorem DI.sects {B : Nat} {w : World} {a mb fb : Nat} {qv : Value} {S : St} (h : DI B w a mb fb qv S) : ∀ x ∈ S.q, Sect x.bytes := fun x hx => (h.qok x hx).2.1

theorem idx_nil (t : Wr → Bool) : idx t [] = -1 := rfl

/-- IndexFunc over a disk's queue. -/
theorem index_disk {B : Nat} {w : World} {a mb fb : Nat} {qv : Value} {S : St} (h : DI B w a mb fb qv S) (fid : Nat) (hcf : ∀ (args : Array Value) (w : World), (callFunc fid args).run Try.prog w = .ok (.enter fid args) w) (t : Wr → Bool) (c : Nat)
    (H : ∀ x ∈ S.q, ∀ w', Below w.heap.size w w' → Calls Try.prog fid #[.agg (wrA x), .pointer (some ⟨c, 0, none⟩)] w' fun e w'' => e = .returned (.bool (t x)) ∧ Below w'.heap.size w' w'') :
    Calls Try.prog 52 #[qv, .func (.func fid) #[] #[.pointer (some ⟨c, 0, none⟩)]] w fun e w' => e = .returned (.int .i64 (idx t S.q)) ∧ Below w.heap.size w w' := by
  rcases h.qcase with ⟨rfl, hq⟩ | ⟨g, cap, rfl⟩
  · rw [hq, idx_nil]
    exact (index_nil 0 0 rfl _ w).mono (by rintro e w' ⟨rfl, rfl⟩; exact ⟨rfl, Below.refl _ _⟩)
  · exact index_any fid hcf t c S.q g _ cap B w h.que rfl h.q64 h.sects H

section
variable {B : Nat} {w : World} {a mb fb : Nat} {qv : Value} {S : St}

set_option maxHeartbeats 400000 in
theorem place_ok (h : DI B w a mb fb qv S) (id : Int) : Calls Try.prog 33 #[.pointer (some ⟨a, 0, none⟩), .int .i64 id] w fun e w' => e = .returned (.int .i64 (idx (fun x => x.id == id) S.q)) ∧ Below w.heap.size w w' := by
  have hmf : ∀ (fn : Fn) (first cap : Array Value) (w : World), (Instr.makeFunc fn first cap).run Try.prog w = .ok (.func fn first cap) w := fun _ _ _ _ => rfl
  have hb := (Below.refl w.heap.size w).alloc (Nat.le_refl _) (.cells #[.int .i64 id] 3)
  have h1 := h.later hb
  have hc2 := h1.c2
  have hcc : (w.alloc (.cells #[.int .i64 id] 3)).cell? ⟨w.heap.size, 0, none⟩ = some (.int .i64 id) := by
    rw [cell_of_row _ _ 0 _ _ _ (at_new rfl)]; rfl
  have c := index_disk h1 53 call60 (fun x => x.id == id) w.heap.size (fun x _ w' hb' => place1_ok x _ id w' ((hb'.cell (p := ⟨w.heap.size, 0, none⟩) (by simp)).trans hcc))
  have HC := (show Hid _ from c)
  clear c h h1
  go_enter Try.func33, Try.ntmps33
  go_wp2_with fail
  refine Calls.mono HC.out ?_
  rintro e w1 ⟨rfl, hb1⟩
  go_wp2
  go_ret
  exact ⟨rfl, hb.trans (hb1.mono (by simp))⟩

set_option maxHeartbeats 400000 in
theorem contains_ok (h : DI B w a mb fb qv S) (fid : Nat) (hcf : ∀ (args : Array Value) (w : World), (callFunc fid args).run Try.prog w = .ok (.enter fid args) w) (t : Wr → Bool) (c : Nat)
    (H : ∀ x ∈ S.q, ∀ w', Below w.heap.size w w' → Calls Try.prog fid #[.agg (wrA x), .pointer (some ⟨c, 0, none⟩)] w' fun e w'' => e = .returned (.bool (t x)) ∧ Below w'.heap.size w' w'') :
    Calls Try.prog 55 #[qv, .func (.func fid) #[] #[.pointer (some ⟨c, 0, none⟩)]] w fun e w' => e = .returned (.bool (S.q.any t)) ∧ Below w.heap.size w w' := by
  have c := index_disk h fid hcf t c H
  have HC := (show Hid _ from c)
  clear c H h
  have hi : decide (0 ≤ idx t S.q) = S.q.any t := by
    cases hf : S.q.findIdx? t with
    | some i =>
      rw [idx_some hf]
      have := List.findIdx?_eq_some_iff_getElem.1 hf
      obtain ⟨h1, h2, _⟩ := this
      have : S.q.any t = true := List.any_eq_true.2 ⟨_, List.getElem_mem h1, h2⟩
      rw [this]; simp
    | none =>
      rw [idx_none hf]
      have := List.findIdx?_eq_none_iff.1 hf
      have : S.q.any t = false := by
        rw [List.any_eq_false]; intro x hx; simp [this x hx]
      rw [this]; simp
  go_enter Try.func55, Try.ntmps55
  go_wp2_with fail
  refine Calls.mono HC.out ?_
  rintro e w1 ⟨rfl, hb1⟩
  go_wp2
  go_ret
  exact ⟨ret_bool (by rw [← hi]), hb1⟩

set_option maxHeartbeats 400000 in
theorem busy_ok (h : DI B w a mb fb qv S) (id : Int) : Calls Try.prog 45 #[.pointer (some ⟨a, 0, none⟩), .int .i64 id] w fun e w' => e = .returned (.bool (S.q.any fun x => (x.block : Int) == id)) ∧ Below w.heap.size w w' := by
  have hmf : ∀ (fn : Fn) (first cap : Array Value) (w : World), (Instr.makeFunc fn first cap).run Try.prog w = .ok (.func fn first cap) w := fun _ _ _ _ => rfl
  have hb := (Below.refl w.heap.size w).alloc (Nat.le_refl _) (.cells #[.int .i64 id] 3)
  have h1 := h.later hb
  have hc2 := h1.c2
  have hcc : (w.alloc (.cells #[.int .i64 id] 3)).cell? ⟨w.heap.size, 0, none⟩ = some (.int .i64 id) := by
    rw [cell_of_row _ _ 0 _ _ _ (at_new rfl)]; rfl
  have c := contains_ok h1 56 call62 (fun x => (x.block : Int) == id) w.heap.size (fun x _ w' hb' => busy1_ok x _ id w' ((hb'.cell (p := ⟨w.heap.size, 0, none⟩) (by simp)).trans hcc))
  have HC := (show Hid _ from c)
  clear c h h1
  go_enter Try.func45, Try.ntmps45
  go_wp2_with fail
  refine Calls.mono HC.out ?_
  rintro e w1 ⟨rfl, hb1⟩
  go_wp2
  go_ret
  exact ⟨rfl, hb.trans (hb1.mono (by simp))⟩
end
end Go.Proofs.Ytemhhgpgpjiijaa
