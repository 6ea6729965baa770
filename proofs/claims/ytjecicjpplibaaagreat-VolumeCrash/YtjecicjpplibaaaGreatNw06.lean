/- Place Build -/
import Derived.Test.YtjecicjpplibaaaGreatNw05
import Derived.Laws.Tables

/- place and busy. -/
namespace Go.Proofs.YtjecicjpplibaaaGreat
open Go.RowKit Go.Maps
set_option maxRecDepth 100000

theorem DI.qcase {B : Nat} {w : World} {a mb fb : Nat} {qv : Value} {S : St} (h : DI B w a mb fb qv S) : (qv = .slice none 0 0 ∧ S.q = []) ∨ ∃ g cap, qv = .slice (some ⟨g, 0, none⟩) S.q.length cap := by
  rcases h.que.2 with ⟨h1, h2⟩ | ⟨g, cap, cur, h1, _⟩
  · exact .inl ⟨h1, List.eq_nil_of_length_eq_zero h2⟩
  · exact .inr ⟨g, cap, h1⟩

theorem DI.sects {B : Nat} {w : World} {a mb fb : Nat} {qv : Value} {S : St} (h : DI B w a mb fb qv S) : ∀ x ∈ S.q, Sect x.bytes := fun x hx => (h.qok x hx).2.1

theorem idx_nil (t : Wr → Bool) : idx t [] = -1 := rfl

/-- IndexFunc over a disk's queue. -/
theorem index_disk {B : Nat} {w : World} {a mb fb : Nat} {qv : Value} {S : St} (h : DI B w a mb fb qv S) (fid : Nat) (hcf : ∀ (args : Array Value) (w : World), (callFunc fid args).run Tryz.prog w = .ok (.enter fid args) w) (t : Wr → Bool) (c : Nat)
    (H : ∀ x ∈ S.q, ∀ w', Below w.heap.size w w' → Calls Tryz.prog fid #[.agg (wrA x), .pointer (some ⟨c, 0, none⟩)] w' fun e w'' => e = .returned (.bool (t x)) ∧ Below w'.heap.size w' w'') :
    Calls Tryz.prog 104 #[qv, .func (.func fid) #[] #[.pointer (some ⟨c, 0, none⟩)]] w fun e w' => e = .returned (.int .i64 (idx t S.q)) ∧ Below w.heap.size w w' := by
  rcases h.qcase with ⟨rfl, hq⟩ | ⟨g, cap, rfl⟩
  · rw [hq, idx_nil]
    exact (index_nil 0 0 rfl _ w).mono (by rintro e w' ⟨rfl, rfl⟩; exact ⟨rfl, Below.refl _ _⟩)
  · exact index_any fid hcf t c S.q g _ cap B w h.que rfl h.q64 h.sects H

section
variable {B : Nat} {w : World} {a mb fb : Nat} {qv : Value} {S : St}

set_option maxHeartbeats 400000 in
theorem place_ok (h : DI B w a mb fb qv S) (id : Int) : Calls Tryz.prog 69 #[.pointer (some ⟨a, 0, none⟩), .int .i64 id] w fun e w' => e = .returned (.int .i64 (idx (fun x => x.id == id) S.q)) ∧ Below w.heap.size w w' := by
  have hmf : ∀ (fn : Fn) (first cap : Array Value) (w : World), (Instr.makeFunc fn first cap).run Tryz.prog w = .ok (.func fn first cap) w := fun _ _ _ _ => rfl
  have hb := (Below.refl w.heap.size w).alloc (Nat.le_refl _) (.cells #[.int .i64 id] 3)
  have h1 := h.later hb
  have hc2 := h1.c2
  have hcc : (w.alloc (.cells #[.int .i64 id] 3)).cell? ⟨w.heap.size, 0, none⟩ = some (.int .i64 id) := by
    rw [cell_of_row _ _ 0 _ _ _ (at_new rfl)]; rfl
  have c := index_disk h1 105 call60 (fun x => x.id == id) w.heap.size (fun x _ w' hb' => place1_ok x _ id w' ((hb'.cell (p := ⟨w.heap.size, 0, none⟩) (by simp)).trans hcc))
  have HC := (show Hid _ from c)
  clear c h h1
  go_enter Tryz.func69, Tryz.ntmps69
  go_wp2_with fail
  refine Calls.mono HC.out ?_
  rintro e w1 ⟨rfl, hb1⟩
  go_wp2
  go_ret
  exact ⟨rfl, hb.trans (hb1.mono (by simp))⟩

set_option maxHeartbeats 400000 in
theorem contains_ok (h : DI B w a mb fb qv S) (fid : Nat) (hcf : ∀ (args : Array Value) (w : World), (callFunc fid args).run Tryz.prog w = .ok (.enter fid args) w) (t : Wr → Bool) (c : Nat)
    (H : ∀ x ∈ S.q, ∀ w', Below w.heap.size w w' → Calls Tryz.prog fid #[.agg (wrA x), .pointer (some ⟨c, 0, none⟩)] w' fun e w'' => e = .returned (.bool (t x)) ∧ Below w'.heap.size w' w'') :
    Calls Tryz.prog 151 #[qv, .func (.func fid) #[] #[.pointer (some ⟨c, 0, none⟩)]] w fun e w' => e = .returned (.bool (S.q.any t)) ∧ Below w.heap.size w w' := by
  have c := index_disk h fid hcf t c H
  have HC := (show Hid _ from c)
  clear c H h
  have hi : decide (0 ≤ idx t S.q) = S.q.any t := by
    cases hf : S.q.findIdx? t with
    | some i =>
      rw [idx_some hf]
      have := List.findIdx?_eq_some_iff_getElem.1 hf
      obtain ⟨h1, h2, _⟩ := this
      have : S.q.any t = true := List.any_eq_true.2 ⟨_, List.getElem_mem h1, h2⟩
      rw [this]; simp
    | none =>
      rw [idx_none hf]
      have := List.findIdx?_eq_none_iff.1 hf
      have : S.q.any t = false := by
        rw [List.any_eq_false]; intro x hx; simp [this x hx]
      rw [this]; simp
  go_enter Tryz.func151, Tryz.ntmps151
  go_wp2_with fail
  refine Calls.mono HC.out ?_
  rintro e w1 ⟨rfl, hb1⟩
  go_wp2
  go_ret
  exact ⟨ret_bool (by rw [← hi]), hb1⟩

set_option maxHeartbeats 400000 in
theorem busy_ok (h : DI B w a mb fb qv S) (id : Int) : Calls Tryz.prog 122 #[.pointer (some ⟨a, 0, none⟩), .int .i64 id] w fun e w' => e = .returned (.bool (S.q.any fun x => (x.block : Int) == id)) ∧ Below w.heap.size w w' := by
  have hmf : ∀ (fn : Fn) (first cap : Array Value) (w : World), (Instr.makeFunc fn first cap).run Tryz.prog w = .ok (.func fn first cap) w := fun _ _ _ _ => rfl
  have hb := (Below.refl w.heap.size w).alloc (Nat.le_refl _) (.cells #[.int .i64 id] 3)
  have h1 := h.later hb
  have hc2 := h1.c2
  have hcc : (w.alloc (.cells #[.int .i64 id] 3)).cell? ⟨w.heap.size, 0, none⟩ = some (.int .i64 id) := by
    rw [cell_of_row _ _ 0 _ _ _ (at_new rfl)]; rfl
  have c := contains_ok h1 152 call62 (fun x => (x.block : Int) == id) w.heap.size (fun x _ w' hb' => busy1_ok x _ id w' ((hb'.cell (p := ⟨w.heap.size, 0, none⟩) (by simp)).trans hcc))
  have HC := (show Hid _ from c)
  clear c h h1
  go_enter Tryz.func122, Tryz.ntmps122
  go_wp2_with fail
  refine Calls.mono HC.out ?_
  rintro e w1 ⟨rfl, hb1⟩
  go_wp2
  go_ret
  exact ⟨rfl, hb.trans (hb1.mono (by simp))⟩
end
end Go.Proofs.YtjecicjpplibaaaGreat

/- How a write is built of its parts, and a list of one write. -/
namespace Go.Proofs.YtjecicjpplibaaaGreat
open Go.RowKit Go.Maps
set_option maxRecDepth 100000

theorem put_list : ∀ (vs : List Value) (k off : Nat) (cs : List Value), off + k + vs.length ≤ cs.length →
    ((vs.zipIdx k).foldl (fun (c : Array Value) (p : Value × Nat) => c.setIfInBounds (off + p.2) p.1) cs.toArray).toList = splice cs (off + k) vs
  | [], k, off, cs, _ => by simp [splice]
  | v :: r, k, off, cs, h => by
    simp only [List.length_cons] at h
    simp only [List.zipIdx_cons, List.foldl_cons]
    have e : (cs.toArray.setIfInBounds (off + k) v) = (cs.set (off + k) v).toArray := by simp
    rw [e, put_list r (k + 1) off _ (by simp; omega)]
    unfold splice
    apply List.ext_getElem?
    intro i
    have hk : off + k < cs.length := by omega
    have e1 : (cs.set (off + k) v).take (off + (k + 1)) = cs.take (off + k) ++ [v] := by
      rw [← Nat.add_assoc, List.take_add_one]
      simp [List.take_set_of_le, hk]
    have e2 : (cs.set (off + k) v).drop (off + (k + 1) + r.length) = cs.drop (off + k + (v :: r).length) := by
      rw [List.drop_set_of_lt (by omega)]
      simp only [List.length_cons]
      congr 1; omega
    rw [e1, e2]
    simp

theorem put_arr (vs cs : List Value) (off : Nat) (h : off + vs.length ≤ cs.length) : vs.toArray.zipIdx.foldl (fun cs (c, j) => cs.setIfInBounds (off + j) c) cs.toArray = (splice cs off vs).toArray := by
  have := put_list vs 0 off cs (by simpa using h)
  apply Array.toList_inj.1
  rw [Nat.add_zero] at this
  rw [← Array.foldl_toList, Array.toList_zipIdx]
  exact this

/-- The cells of a write of noughts. -/
def zwr : List Value := .int .i64 0 :: .int .i64 0 :: zer.map (Value.int .u8)
theorem zero86 : (Tryz.prog.info? 108).bind (·.zero) = some (.agg zwr.toArray) := by kernel_rfl
theorem fill_step (place : Nat → Option (Nat × Nat)) (cs vs : List Value) (i off sz : Nat) (v : Value) (rest : List (Nat × Value)) (hp : place i = some (off, sz)) (hv : v.cells = vs.toArray) (hs : vs.length = sz) (hl : off + sz ≤ cs.length) :
    Instr.fill place cs.toArray ((i, v) :: rest) = Instr.fill place (splice cs off vs).toArray rest := by
  rw [Instr.fill, hp]
  simp only [hv, List.size_toArray]
  rw [if_neg (by simp [hs]; omega), put_arr vs cs off (by omega)]

theorem zwr_len : zwr.length = 130 := by simp [zwr, zer]

theorem built86 (x : Wr) (h : Sect x.bytes) : Tryz.prog.built 108 [(0, .int .i64 x.id), (1, .int .i64 (x.block : Int)), (2, .agg (secA x.bytes))] = some (wrA x) := by
  obtain ⟨it, hit, hz⟩ := Option.bind_eq_some_iff.1 zero86
  have hp : List.mapM (fun f : Field => Option.map (fun i => (f.offset, i.size)) (Tryz.prog.info? f.type))
        [{ name := "id", type := 3, offset := 0, embedded := false, tag := "", pkgPath := "bollard/disk",
            byteOffset := 0 },
          { name := "block", type := 3, offset := 1, embedded := false, tag := "", pkgPath := "bollard/disk",
            byteOffset := 8 },
          { name := "bytes", type := 106, offset := 2, embedded := false, tag := "", pkgPath := "bollard/disk",
            byteOffset := 16 }] = some [(0, 1), (1, 1), (2, 128)] := by kernel_rfl
  have hx := h.1
  unfold Program.built
  rw [hit, Tryz.underlying108]
  simp only [hz, hp]
  show Instr.fill _ zwr.toArray _ = _
  rw [fill_step _ zwr [.int .i64 x.id] 0 0 1 _ _ rfl rfl rfl (by rw [zwr_len]; omega)]
  have e1 : splice zwr 0 [.int .i64 x.id] = .int .i64 x.id :: .int .i64 0 :: zer.map (Value.int .u8) := by simp [splice, zwr]
  rw [e1, fill_step _ _ [.int .i64 (x.block : Int)] 1 1 1 _ _ rfl rfl rfl (by simp [zer])]
  have e2 : splice (Value.int .i64 x.id :: .int .i64 0 :: zer.map (Value.int .u8)) 1 [.int .i64 (x.block : Int)] = .int .i64 x.id :: .int .i64 (x.block : Int) :: zer.map (Value.int .u8) := by simp [splice]
  rw [e2, fill_step _ _ (x.bytes.map (Value.int .u8)) 2 2 128 _ _ rfl rfl (by simpa using hx) (by simp [zer])]
  have e3 : splice (Value.int .i64 x.id :: .int .i64 (x.block : Int) :: zer.map (Value.int .u8)) 2 (x.bytes.map (Value.int .u8)) = x.cells := by
    simp [splice, Wr.cells, hx, zer]
  rw [e3]
  rfl

theorem build_wr (x : Wr) (h : Sect x.bytes) (w : World) : (Instr.build 108 #[(0, .int .i64 x.id), (1, .int .i64 (x.block : Int)), (2, .agg (secA x.bytes))]).run Tryz.prog w = .ok (.agg (wrA x)) w :=
  run_build w 108 _ _ (built86 x h)

theorem splice_whole (cs vs : List Value) (h : vs.length = cs.length) : splice cs 0 vs = vs := by simp [splice, h]

theorem buildSlice_wr (x : Wr) (h : Sect x.bytes) (w : World) : (Instr.buildSlice 81 1 #[(0, .agg (wrA x))]).run Tryz.prog w = .ok (.slice (some ⟨w.heap.size, 0, none⟩) 1 1) (w.alloc (.cells (wrA x) 108)) := by
  obtain ⟨it, hit, hz⟩ := Option.bind_eq_some_iff.1 zero86
  have hs : it.size = 130 := by have := info86; rw [hit] at this; simpa using this
  have hl := cells_len x h
  have hsz : (sizeOf 108).run Tryz.prog w = .ok 130 w := by simp [sizeOf, typeInfo, hit, hs]
  have hzr : (zeroValue 108).run Tryz.prog w = .ok (.agg zwr.toArray) w := by simp [zeroValue, typeInfo, hit, hz]
  have hf : ∀ cs : Array Value, cs.size = 130 → Instr.fill (fun i => some (i * 130, 130)) cs [(0, .agg (wrA x))] = some (wrA x) := by
    intro cs hcl
    have e : cs = cs.toList.toArray := by simp
    rw [e, fill_step _ cs.toList x.cells 0 0 130 _ _ (by simp) rfl hl (by simp [hcl]), splice_whole _ _ (by rw [hl]; simp [hcl])]
    rfl
  simp [Instr.buildSlice, run_underlying Tryz.underlying81, hsz, newRow]
  rw [hf _ (by simp)]
  simp
end Go.Proofs.YtjecicjpplibaaaGreat
