/- bytes.Repeat of one byte, 128 times. -/
import Derived.Test.YtinigfidofgaiaaGreatDOf
import Derived.Deep.RegionLaw
import Derived.Laws.Externs
import Derived.Lib.MakeNoZero
namespace Go.Proofs.YtinigfidofgaiaaGreat
open Go.RowKit Go.Maps
set_option linter.unusedVariables false

set_option maxRecDepth 100000 in
set_option maxHeartbeats 1000000 in
theorem mul64_ok (w : World) : Calls Tryz.prog 139 #[.int .u64 1, .int .u64 128] w fun e w' => e = .returned (.tuple #[.int .u64 0, .int .u64 128]) ∧ w' = w := by
  go_enter Tryz.func139, Tryz.ntmps139
  go_wp2
  go_ret2
  exact ⟨rfl, rfl⟩
set_option maxHeartbeats 400000 in
theorem mul_ok (w : World) : Calls Tryz.prog 106 #[.int .u64 1, .int .u64 128] w fun e w' => e = .returned (.tuple #[.int .u64 0, .int .u64 128]) ∧ w' = w := by
  have h := mul64_ok w
  go_enter Tryz.func106, Tryz.ntmps106
  go_wp2_with (first | (go_at_call 139; refine same_at h ?_))
  go_ret2
  exact ⟨rfl, rfl⟩
theorem called107 (args : Array Value) (w : World) : (callFunc 107 args).run Tryz.prog w = ((Extern.BytealgMakeNoZero.makeNoZero #[3] #[42] args).run Tryz.prog w).andThen fun v w' => .ok (.value v) w' :=
  run_callFunc_extern Tryz.func107 (by kernel_rfl) (by kernel_rfl) (by kernel_rfl) (by kernel_rfl) args w

set_option maxRecDepth 100000 in
set_option maxHeartbeats 2000000 in
theorem repeat_ok (x : Int) (hx : 0 ≤ x ∧ x < 256) (a : Addr) (cp : Nat) (w : World) (h : BI w (some a) 1 [x]) :
    Calls Tryz.prog 72 #[.slice (some a) 1 cp, .int .i64 128] w fun e w' => ∃ g, e = .returned (.slice (some ⟨g, 0, none⟩) 128 128) ∧ w.heap.size ≤ g ∧ BI w' (some ⟨g, 0, none⟩) 128 (List.replicate 128 x) ∧ (∃ cs, w'.heap[g]? = some (.cells cs 5 (0, 0))) ∧ Below w.heap.size w w' := by
  have hm := mul_ok w
  obtain ⟨cs, hrun, hcs, hcm⟩ := Lib.run_makeNoZero (P := Tryz.prog) w #[3] 42 5 Tryz.underlying42 128 (by omega)
  have hcall : (callFunc 107 #[.int .i64 128]).run Tryz.prog w = .ok (.value (.slice (some ⟨w.heap.size, 0, none⟩) 128 cs.size)) (w.drew.drew.alloc (.cells cs 5)) := by
    rw [called107]
    have : (Extern.BytealgMakeNoZero.makeNoZero #[3] #[42] #[.int .i64 128]).run Tryz.prog w = _ := hrun
    rw [this]
    rfl
  have hbA : Below w.heap.size w (w.alloc (.cells cs 5)).drew.drew := below_drewN ((Below.refl _ w).alloc (Nat.le_refl _) _) 2
  have hrow0 : (w.alloc (.cells cs 5)).drew.drew.heap[w.heap.size]? = some (.cells cs.toList.toArray 5 (0, 0)) := heap_alloc_new w _
  have hsrc := (h.kept hbA).src'
  have hone := one_cells [x]
  go_enter Tryz.func72, Tryz.ntmps72
  go_wp2_with (first
    | (go_at_call 106; refine same_at hm ?_)
    | (refine wpList_copy_splice rfl (.tmp 58) (.tmp 59) 42 42 rfl 5 Tryz.underlying42 size5 _ _ _ _ _ _ rfl rfl w.heap.size 0 cs.toList 5 hrow0 [Value.int .u8 x] rfl (fun _ => ⟨rfl, a, rfl, hsrc⟩) (by simp; omega) hone w.heap.size w hbA (Nat.le_refl _) ?_))
  intro W1 hg1 hb1
  have hrow1 := hg1.out
  clear hg1
  go_wp2_with fail
  go_loopw [10] (fun b wr => ∃ (k : Nat) (cur : List Value), 1 ≤ k ∧ k ≤ 128 ∧ b = .int .i64 (k : Int) ∧ wr.heap[w.heap.size]? = some (.cells cur.toArray 5 (0, 0)) ∧ cur.length = cs.size ∧ cur.take k = List.replicate k (.int .u8 x) ∧ Below w.heap.size w wr) (fun b _ => 128 - (intOf b).toNat)
  case atStart => exact ⟨1, _, by omega, by omega, rfl, hrow1, by rw [length_splice _ _ _ (by simp; omega)]; simp, by simp [splice], hb1⟩
  case round =>
    clear hb1 hrow1 hrow0 hsrc hbA hone hcall hrun
    obtain ⟨k, cur, hk1, hk2, rfl, hrow, hlen, htake, hb⟩ := hrel
    by_cases hlt : k < 128
    · have hI : (k : Int) < 128 := by omega
      have hk0 : (0 : Int) ≤ (k : Int) := by omega
      have hkJ : (k : Int) ≤ 128 := by omega
      obtain ⟨m, hm⟩ : ∃ m, m = min k (128 - k) := ⟨_, rfl⟩
      have hcell : ∀ j, j < k → wr.cell? ⟨w.heap.size, j, none⟩ = some (.int .u8 x) := by
        intro j hj
        have e : cur[j]? = some (.int .u8 x) := by
          have : (cur.take k)[j]? = some (.int .u8 x) := by rw [htake]; simp [hj]
          rw [List.getElem?_take_of_lt hj] at this
          exact this
        simp [World.cell?, hrow, e]
      have hmin : min (k : Int) 128 = (k : Int) := by omega
      have b1 := IntWalk.i64_in (k : Int) (by omega)
      have hml : (List.replicate m (Value.int .u8 x)).length = Nat.min k (128 - k) := by simp [hm]
      have hsrc : ∀ j v, (List.replicate m (Value.int .u8 x))[j]? = some v → wr.drew.cell? ((⟨w.heap.size, 0, none⟩ : Addr).add j) = some v := by
        intro j v hj
        rw [List.getElem?_replicate] at hj
        split at hj
        · cases hj
          have e : (⟨w.heap.size, 0, none⟩ : Addr).add j = ⟨w.heap.size, j, none⟩ := by unfold Addr.add; split <;> simp_all
          rw [e]
          exact hcell j (by omega)
        · cases hj
      have hm1 : 1 ≤ m := by omega
      have hm2 : k + m ≤ 128 := by omega
      have hfit : k + (List.replicate m (Value.int .u8 x)).length ≤ cur.length := by simp; omega
      have hone2 : ∀ v ∈ List.replicate m (Value.int .u8 x), v.oneCell' = true := by
        intro v hv
        rw [(List.mem_replicate.1 hv).2]
        rfl
      have hbd := hb.drew
      have hrd : wr.drew.heap[w.heap.size]? = some (.cells cur.toArray 5 (0, 0)) := hrow
      have HS := (show Hid _ from hsrc)
      have HF := (show Hid _ from hfit)
      have HL := (show Hid _ from hml)
      have HT := (show Hid _ from htake)
      have H1 := (show Hid _ from hone2)
      have HR := (show Hid _ from hrd)
      have b2 := IntWalk.i64_in ((k : Int) + (m : Int)) (by omega)
      clear hsrc hfit hml htake hone2 hrd hcell hrow hm
      go_wp2_with fail
      go_region_law (first | (refine step_copy_splice rfl (.tmp 70) (.tmp 73) 42 42 rfl 5 Tryz.underlying42 size5 (some ⟨w.heap.size, k, none⟩) (some ⟨w.heap.size, 0, none⟩) (128 - k) (128 - k) k 128 (by simp [Act.eval, Act.put]; omega) (by simp [Act.eval, Act.put]) w.heap.size k cur 5 HR.out (List.replicate m (Value.int .u8 x)) HL.out (fun _ => ⟨rfl, _, rfl, HS.out⟩) HF.out H1.out w.heap.size w hbd (Nat.le_refl _) ?_; intro w5 hg5 hb5))
      go_simp
      go_wp2
      go_roundw
      case rel =>
        refine ⟨k + m, _, by omega, by omega, by go_num, hg5.out, ?_, ?_, hb5⟩
        · rw [length_splice _ _ _ HF.out]; exact hlen
        · have hck : (cur.take k).length = k := by rw [HT.out]; simp
          unfold splice
          rw [HT.out, ← List.append_assoc]
          rw [List.take_append_of_le_length (by simp)]
          rw [List.take_of_length_le (by simp)]
          rw [List.replicate_append_replicate]
      case measure => simp [intOf]; omega
    · obtain rfl : k = 128 := by omega
      have HT := (show Hid _ from htake)
      clear htake
      go_wp2_with fail
      go_ret
      refine ⟨w.heap.size, rfl, Nat.le_refl _, ⟨by simp, by omega, ?_, fun _ => ⟨w.heap.size, 0, rfl, fun i hi => ?_⟩⟩, ⟨_, hrow⟩, hb⟩
      · intro i
        rw [List.getD_eq_getElem?_getD, List.getElem?_replicate]
        split
        · exact hx
        · simp
      · have e : cur[i]? = some (.int .u8 x) := by
          have : (cur.take 128)[i]? = some (.int .u8 x) := by rw [HT.out, List.getElem?_replicate, if_pos hi]
          rw [List.getElem?_take_of_lt hi] at this
          exact this
        rw [Nat.zero_add]
        rw [List.getD_eq_getElem?_getD, List.getElem?_replicate, if_pos hi]
        simp [World.cell?, hrow, e]
end Go.Proofs.YtinigfidofgaiaaGreat
